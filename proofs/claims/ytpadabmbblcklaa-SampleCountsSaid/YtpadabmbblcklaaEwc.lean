/-
  How many slots each has: Count, the program's and the document's.
-/
import Derived.Test.YtpadabmbblcklaaEo
import Derived.Test.YtpadabmbblcklaaEd
namespace Go.Proofs.Ytpadabmbblcklaa
open Go.RowKit

theorem zrow_countQ (n : Nat) : zrow .i64 n [] = encZ .i64 (countQ n []) := by rw [zrow_nil, countQ_nil]; simp [encZ]
theorem encZ_count {n i : Nat} {l : List Int} {c : Int} (h : (countQ n l)[i]? = some c) : (encZ .i64 (countQ n l)).toArray.setIfInBounds i (.int .i64 (c + 1)) = (encZ .i64 (countQ n (l ++ [(i : Int)]))).toArray := by
  apply Array.ext'
  rw [Array.toList_setIfInBounds, ← countQ_set c h]
  unfold encZ
  rw [List.map_set]
theorem slotsOk_no {n : Int} {l : List Int} {k : Nat} {x : Int} (hk : l[k]? = some x) (h : x < 0 ∨ n ≤ x) : slotsOk n l = false := by
  unfold slotsOk
  rw [← Bool.not_eq_true, List.all_eq_true]
  intro h2
  have := h2 x (List.mem_of_getElem? hk)
  simp at this
  omega
theorem slotsOk_yes {n : Int} {l : List Int} (h : ∀ (k : Nat) (x : Int), l[k]? = some x → 0 ≤ x ∧ x < n) : slotsOk n l = true := by
  unfold slotsOk
  rw [List.all_eq_true]
  intro x hx
  obtain ⟨k, hk⟩ := List.getElem?_of_mem hx
  have := h k x hk
  simp
  omega

set_option maxRecDepth 100000 in
set_option maxHeartbeats 4000000 in
theorem count_any {v : Value} {l : List Int} {w : World} (hs : SeesZ .i64 w v l) (m : Int) :
    Calls Try.prog 21 #[.int .i64 m, v] w fun e w' => ∃ v', e = .returned (.tuple #[v', .int .i64 (countE m l).2]) ∧ SeesZ .i64 w' v' (countE m l).1 ∧
      (∀ g, v'.ownBlock = some g → w.heap.size ≤ g) ∧ Kp (fun _ => False) w w' := by
  obtain ⟨a, c, rfl, hlc, hmax, _⟩ := hs.form
  have HS := Lib.hid (fun w' (kp : Kp (fun _ => False) w w') => hs.kept kp)
  obtain ⟨q1, h1⟩ : ∃ q, q = (countE m l).1 := ⟨_, rfl⟩
  obtain ⟨q2, h2⟩ : ∃ q, q = (countE m l).2 := ⟨_, rfl⟩
  rw [← h1, ← h2]
  have hbad : (m < 0 ∨ 32 < m) → q1 = [] ∧ q2 = 1 := fun h => by rw [h1, h2]; unfold countE; rw [if_pos h]; exact ⟨rfl, rfl⟩
  have HBad := Lib.hid (fun (h0 : ¬ (m < 0 ∨ 32 < m)) (h : slotsOk m l = false) => (show q1 = [] ∧ q2 = 1 by rw [h1, h2]; unfold countE; rw [if_neg h0, h]; exact ⟨rfl, rfl⟩))
  have HGood := Lib.hid (fun (h0 : ¬ (m < 0 ∨ 32 < m)) (h : slotsOk m l = true) => (show q1 = countQ m.toNat l ∧ q2 = 0 by rw [h1, h2]; unfold countE; rw [if_neg h0, h]; exact ⟨rfl, rfl⟩))
  clear h1 h2 hs
  have hl0 : (0 : Int) ≤ l.length := by omega
  by_cases hm0 : m < 0
  · obtain ⟨rfl, rfl⟩ := hbad (.inl hm0)
    clear hbad HBad HGood
    go_enter Try.func21, Try.ntmps21
    go_wp2
    go_ret2
    exact ⟨_, rfl, SeesZ.nil _ _, (fun g h => by cases h), Kp.refl _ _⟩
  by_cases hm1 : 32 < m
  · obtain ⟨rfl, rfl⟩ := hbad (.inr hm1)
    clear hbad HBad HGood
    go_enter Try.func21, Try.ntmps21
    go_wp2
    go_ret2
    exact ⟨_, rfl, SeesZ.nil _ _, (fun g h => by cases h), Kp.refl _ _⟩
  clear hbad
  obtain ⟨n, rfl⟩ : ∃ n : Nat, m = n := ⟨m.toNat, by omega⟩
  have HB2 := Lib.hid (fun (h : slotsOk n l = false) => HBad.out (by omega) h)
  have HG2 := Lib.hid (fun (h : slotsOk n l = true) => HGood.out (by omega) h)
  clear HBad HGood
  have hn32 : n ≤ 32 := by omega
  have hmk := mkInt n (by omega) w
  rw [zrow_countQ] at hmk
  go_enter Try.func21, Try.ntmps21
  go_wp2_with fail
  go_loopw [19] (fun iv wr => ∃ (k : Nat), k ≤ l.length ∧ iv = .int .i64 k ∧ Hid (Kp (fun _ => False) w wr) ∧ Hid (wr.heap[w.heap.size]? = some (.cells (encZ .i64 (countQ n (l.take k))).toArray 3 (0, 0))) ∧
    Hid (∀ (j : Nat) (x : Int), j < k → l[j]? = some x → 0 ≤ x ∧ x < n)) (fun iv _ => l.length - (intOf iv).toNat)
  case atStart => exact ⟨0, by omega, rfl, Lib.hid ((Kp.refl _ w).alloc _), Lib.hid (new_blk _ _), Lib.hid (fun j x h => by omega)⟩
  case round =>
    obtain ⟨k, hk, rfl, hkp, hblk, hall⟩ := hrel
    by_cases hlt : k < l.length
    · obtain ⟨x, hx⟩ : ∃ x, l[k]? = some x := ⟨l[k], by simp⟩
      obtain ⟨g, off, rfl, hc⟩ := (HS.out wr hkp.out).at hx
      have HX := Lib.hid hx
      have HKP := Lib.hid hkp.out
      clear hx hkp
      by_cases hneg : x < 0
      · obtain ⟨rfl, rfl⟩ := HB2.out (slotsOk_no HX.out (.inl hneg))
        go_wp2
        go_ret2
        exact ⟨_, rfl, SeesZ.nil _ _, (fun g h => by cases h), HKP.out⟩
      · by_cases hbig : (n : Int) ≤ x
        · obtain ⟨rfl, rfl⟩ := HB2.out (slotsOk_no HX.out (.inr hbig))
          go_wp2
          go_ret2
          exact ⟨_, rfl, SeesZ.nil _ _, (fun g h => by cases h), HKP.out⟩
        · obtain ⟨i, rfl⟩ : ∃ i : Nat, x = i := ⟨x.toNat, by omega⟩
          have hin : i < n := by omega
          obtain ⟨cc, hcc⟩ : ∃ cc, (countQ n (l.take k))[i]? = some cc := ⟨_, countQ_get hin⟩
          have hcb := countQ_bound n (l.take k) cc (List.mem_of_getElem? hcc)
          have hcb2 : (l.take k).length ≤ k := by rw [List.length_take]; omega
          have hci : wr.cell? ⟨w.heap.size, i, none⟩ = some (.int .i64 cc) := by rw [cell_blk hblk.out, List.getElem?_toArray]; exact encZ_get hcc
          have hfi : wr.frozen? ⟨w.heap.size, i, none⟩ = false := free_blk hblk.out i
          have hs5 := set_blk hblk.out i (.int .i64 (cc + 1))
          have htk : l.take (k + 1) = l.take k ++ [(i : Int)] := by
            obtain ⟨hk', e⟩ := List.getElem?_eq_some_iff.1 HX.out
            rw [List.take_succ_eq_append_getElem hk', e]
          rw [encZ_count hcc, ← htk] at hs5
          have HB5 := Lib.hid hs5
          have HK5 := Lib.hid (show Kp (fun _ => False) w (wr.setCell ⟨w.heap.size, i, none⟩ (.int .i64 (cc + 1))) from HKP.out.setCell (fun h => by simp only at h; omega) _)
          have HALL := Lib.hid (show ∀ (j : Nat) (y : Int), j < k + 1 → l[j]? = some y → 0 ≤ y ∧ y < n from fun j y hj hy => by
            rcases Nat.lt_or_ge j k with h | h
            · exact hall.out j y h hy
            · obtain rfl : j = k := by omega
              rw [HX.out] at hy
              cases hy
              omega)
          obtain ⟨hcb0, hcb1⟩ := hcb
          clear hcc hs5 htk hblk hall
          go_wp2
          go_roundw
          case rel => exact ⟨k + 1, by omega, by go_num, HK5, HB5, HALL⟩
          case measure => simp [intOf]; omega
    · obtain rfl : k = l.length := by omega
      obtain ⟨e1, rfl⟩ := HG2.out (slotsOk_yes (fun j x hj => hall.out j x (List.getElem?_eq_some_iff.1 hj).1 hj))
      rw [Int.toNat_natCast] at e1
      have hb := hblk.out
      rw [List.take_length, ← e1] at hb
      have hql : q1.length = n := by rw [e1, countQ_length]
      have hse := seesZ_blk (rest := []) (l := q1) (cap := n) (by rw [List.append_nil]; exact hb) (by omega) (by unfold maxLen; omega)
      rw [hql] at hse
      have HSE := Lib.hid hse
      have HKP := Lib.hid hkp.out
      clear e1 hb hql hse hblk hall hkp
      go_wp2
      go_ret2
      exact ⟨_, rfl, HSE.out, fun g hg => by cases hg; exact Nat.le_refl _, HKP.out⟩

set_option maxRecDepth 100000 in
set_option maxHeartbeats 4000000 in
theorem rcount_any {v : Value} {l : List Int} {w : World} (hs : SeesZ .i64 w v l) (m : Int) :
    Calls Try.prog 22 #[.int .i64 m, v] w fun e w' => ∃ v', e = .returned (.tuple #[v', .int .i64 (countE m l).2]) ∧ SeesZ .i64 w' v' (countE m l).1 ∧
      (∀ g, v'.ownBlock = some g → w.heap.size ≤ g) ∧ Kp (fun _ => False) w w' := by
  obtain ⟨a, c, rfl, hlc, hmax, _⟩ := hs.form
  have HS := Lib.hid (fun w' (kp : Kp (fun _ => False) w w') => hs.kept kp)
  obtain ⟨q1, h1⟩ : ∃ q, q = (countE m l).1 := ⟨_, rfl⟩
  obtain ⟨q2, h2⟩ : ∃ q, q = (countE m l).2 := ⟨_, rfl⟩
  rw [← h1, ← h2]
  have hbad : (m < 0 ∨ 32 < m) → q1 = [] ∧ q2 = 1 := fun h => by rw [h1, h2]; unfold countE; rw [if_pos h]; exact ⟨rfl, rfl⟩
  have HBad := Lib.hid (fun (h0 : ¬ (m < 0 ∨ 32 < m)) (h : slotsOk m l = false) => (show q1 = [] ∧ q2 = 1 by rw [h1, h2]; unfold countE; rw [if_neg h0, h]; exact ⟨rfl, rfl⟩))
  have HGood := Lib.hid (fun (h0 : ¬ (m < 0 ∨ 32 < m)) (h : slotsOk m l = true) => (show q1 = countQ m.toNat l ∧ q2 = 0 by rw [h1, h2]; unfold countE; rw [if_neg h0, h]; exact ⟨rfl, rfl⟩))
  clear h1 h2 hs
  have hl0 : (0 : Int) ≤ l.length := by omega
  by_cases hm0 : m < 0
  · obtain ⟨rfl, rfl⟩ := hbad (.inl hm0)
    clear hbad HBad HGood
    go_enter Try.func22, Try.ntmps22
    go_wp2
    go_ret2
    exact ⟨_, rfl, SeesZ.nil _ _, (fun g h => by cases h), Kp.refl _ _⟩
  by_cases hm1 : 32 < m
  · obtain ⟨rfl, rfl⟩ := hbad (.inr hm1)
    clear hbad HBad HGood
    go_enter Try.func22, Try.ntmps22
    go_wp2
    go_ret2
    exact ⟨_, rfl, SeesZ.nil _ _, (fun g h => by cases h), Kp.refl _ _⟩
  clear hbad
  obtain ⟨n, rfl⟩ : ∃ n : Nat, m = n := ⟨m.toNat, by omega⟩
  have HB2 := Lib.hid (fun (h : slotsOk n l = false) => HBad.out (by omega) h)
  have HG2 := Lib.hid (fun (h : slotsOk n l = true) => HGood.out (by omega) h)
  clear HBad HGood
  have hn32 : n ≤ 32 := by omega
  have hmk := mkInt n (by omega) w
  rw [zrow_countQ] at hmk
  go_enter Try.func22, Try.ntmps22
  go_wp2_with fail
  go_loopw [7] (fun iv wr => ∃ (k : Nat), k ≤ l.length ∧ iv = .int .i64 k ∧ Hid (Kp (fun _ => False) w wr) ∧ Hid (wr.heap[w.heap.size]? = some (.cells (encZ .i64 (countQ n (l.take k))).toArray 3 (0, 0))) ∧
    Hid (∀ (j : Nat) (x : Int), j < k → l[j]? = some x → 0 ≤ x ∧ x < n)) (fun iv _ => l.length - (intOf iv).toNat)
  case atStart => exact ⟨0, by omega, rfl, Lib.hid ((Kp.refl _ w).alloc _), Lib.hid (new_blk _ _), Lib.hid (fun j x h => by omega)⟩
  case round =>
    obtain ⟨k, hk, rfl, hkp, hblk, hall⟩ := hrel
    by_cases hlt : k < l.length
    · obtain ⟨x, hx⟩ : ∃ x, l[k]? = some x := ⟨l[k], by simp⟩
      obtain ⟨g, off, rfl, hc⟩ := (HS.out wr hkp.out).at hx
      have HX := Lib.hid hx
      have HKP := Lib.hid hkp.out
      clear hx hkp
      by_cases hneg : x < 0
      · obtain ⟨rfl, rfl⟩ := HB2.out (slotsOk_no HX.out (.inl hneg))
        go_wp2
        go_ret2
        exact ⟨_, rfl, SeesZ.nil _ _, (fun g h => by cases h), HKP.out⟩
      · by_cases hbig : (n : Int) ≤ x
        · obtain ⟨rfl, rfl⟩ := HB2.out (slotsOk_no HX.out (.inr hbig))
          go_wp2
          go_ret2
          exact ⟨_, rfl, SeesZ.nil _ _, (fun g h => by cases h), HKP.out⟩
        · obtain ⟨i, rfl⟩ : ∃ i : Nat, x = i := ⟨x.toNat, by omega⟩
          have hin : i < n := by omega
          obtain ⟨cc, hcc⟩ : ∃ cc, (countQ n (l.take k))[i]? = some cc := ⟨_, countQ_get hin⟩
          have hcb := countQ_bound n (l.take k) cc (List.mem_of_getElem? hcc)
          have hcb2 : (l.take k).length ≤ k := by rw [List.length_take]; omega
          have hci : wr.cell? ⟨w.heap.size, i, none⟩ = some (.int .i64 cc) := by rw [cell_blk hblk.out, List.getElem?_toArray]; exact encZ_get hcc
          have hfi : wr.frozen? ⟨w.heap.size, i, none⟩ = false := free_blk hblk.out i
          have hs5 := set_blk hblk.out i (.int .i64 (cc + 1))
          have htk : l.take (k + 1) = l.take k ++ [(i : Int)] := by
            obtain ⟨hk', e⟩ := List.getElem?_eq_some_iff.1 HX.out
            rw [List.take_succ_eq_append_getElem hk', e]
          rw [encZ_count hcc, ← htk] at hs5
          have HB5 := Lib.hid hs5
          have HK5 := Lib.hid (show Kp (fun _ => False) w (wr.setCell ⟨w.heap.size, i, none⟩ (.int .i64 (cc + 1))) from HKP.out.setCell (fun h => by simp only at h; omega) _)
          have HALL := Lib.hid (show ∀ (j : Nat) (y : Int), j < k + 1 → l[j]? = some y → 0 ≤ y ∧ y < n from fun j y hj hy => by
            rcases Nat.lt_or_ge j k with h | h
            · exact hall.out j y h hy
            · obtain rfl : j = k := by omega
              rw [HX.out] at hy
              cases hy
              omega)
          obtain ⟨hcb0, hcb1⟩ := hcb
          clear hcc hs5 htk hblk hall
          go_wp2
          go_roundw
          case rel => exact ⟨k + 1, by omega, by go_num, HK5, HB5, HALL⟩
          case measure => simp [intOf]; omega
    · obtain rfl : k = l.length := by omega
      obtain ⟨e1, rfl⟩ := HG2.out (slotsOk_yes (fun j x hj => hall.out j x (List.getElem?_eq_some_iff.1 hj).1 hj))
      rw [Int.toNat_natCast] at e1
      have hb := hblk.out
      rw [List.take_length, ← e1] at hb
      have hql : q1.length = n := by rw [e1, countQ_length]
      have hse := seesZ_blk (rest := []) (l := q1) (cap := n) (by rw [List.append_nil]; exact hb) (by omega) (by unfold maxLen; omega)
      rw [hql] at hse
      have HSE := Lib.hid hse
      have HKP := Lib.hid hkp.out
      clear e1 hb hql hse hblk hall hkp
      go_wp2
      go_ret2
      exact ⟨_, rfl, HSE.out, fun g hg => by cases hg; exact Nat.le_refl _, HKP.out⟩
end Go.Proofs.Ytpadabmbblcklaa
