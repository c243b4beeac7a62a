/-
  PackOrder: of two numbers of one width the lesser one's bytes stand ahead. No condition.
-/
import Derived.Test.YtahdnapinlbflaaPt
import Derived.Test.YtahdnapinlbflaaCp
namespace Go.Proofs.Ytahdnapinlbflaa
open Go.ChangeShapes Go.WideShapes Go.ChangeAt Go.RowKit

theorem Sees.nil (w : World) : Sees w (.slice none 0 0) [] := .inl ⟨rfl, rfl⟩
theorem order_tail {w : World} {x y : Value} (n : Nat) (a b : Int) (hx : Sees w x (be n a)) (hy : Sees w y (be n b)) (ha0 : 0 ≤ a) (ha1 : a < 256 ^ n) (hb0 : 0 ≤ b) (hb1 : b < 256 ^ n) :
    ∃ (c : Int) (q : Bool), Calls Try.prog 29 #[x, y] w (fun r w' => r = .returned (.int .i64 c) ∧ w = w') ∧ Calls Try.prog 18 #[x, y] w (fun r w' => r = .returned (.bool q) ∧ w = w') ∧
      ((c < 0 ∧ a < b ∧ q = false ∧ (a == b) = false) ∨ (0 ≤ c ∧ ¬ a < b ∧ q = false ∧ (a == b) = false) ∨ (0 ≤ c ∧ ¬ a < b ∧ q = true ∧ (a == b) = true)) := by
  have hbc := be_cmp n a b ha0 ha1 hb0 hb1
  refine ⟨cmpI (be n a) (be n b), decide (be n a = be n b), compare_any hx hy (be_rng _ _) (be_rng _ _), equal_any hx hy (be_rng _ _) (be_rng _ _), ?_⟩
  rcases Int.lt_trichotomy a b with h | h | h
  · refine .inl ⟨hbc.1.2 h, h, decide_eq_false (fun e => ?_), beq_eq_false_iff_ne.2 (by omega)⟩
    have := hbc.2.1 e; omega
  · refine .inr (.inr ⟨?_, by omega, decide_eq_true (hbc.2.2 h), beq_iff_eq.2 h⟩)
    have := hbc.1; omega
  · refine .inr (.inl ⟨?_, by omega, decide_eq_false (fun e => ?_), beq_eq_false_iff_ne.2 (by omega)⟩)
    · have := hbc.1; omega
    · have := hbc.2.1 e; omega
theorem Away.nil (b : Value) (F : Nat → Prop) : Away b [] F := fun h => absurd rfl h

theorem item_1 (a : Int) : itemS 8 [] 0 1 a [] = (be 1 (a % 256), 0) := by
  have h : putS 8 [] 0 (be 1 (a % 256)) = (be 1 (a % 256), 0) := by
    unfold putS; rw [if_pos rfl, if_pos (by rw [be_length]; decide)]; rfl
  unfold itemS
  simpa using h
set_option maxHeartbeats 2000000 in
theorem order_1 (a b width : Int) (ha0 : 0 ≤ a) (ha1 : a ≤ 18446744073709551615) (hb0 : 0 ≤ b) (hb1 : b ≤ 18446744073709551615) (hw0 : 0 ≤ width) (hw : width % 4 = 0) (w : World) :
    Calls Try.prog 6 #[.int .u64 a, .int .u64 b, .int .u8 width] w fun r w' => r = .returned (.bool true) ∧ Kp (fun _ => False) w w' := by
  have hk0 : Kp (fun _ => False) w (w.alloc (.cells #[.int .i64 1, .int .i64 2, .int .i64 4, .int .i64 8] 3)) := (Kp.refl _ _).alloc _
  have HN1 := Lib.hid (newP_any 8 (w := w.alloc (.cells #[.int .i64 1, .int .i64 2, .int .i64 4, .int .i64 8] 3)) (B := w.heap.size) hk0.size)
  have HK0 := Lib.hid hk0
  have HA1 := Lib.hid ha1
  have HB1 := Lib.hid hb1
  clear hk0 ha1 hb1
  go_enter Try.func6, Try.ntmps6
  go_wp2_with fail
  have HW := Lib.hid hw
  clear hw
  refine (HN1.out).mono ?_
  rintro r w1 ⟨rfl, hp, hk, hsz⟩
  rw [if_pos (by omega)] at hp
  rw [World.size_alloc] at hp hsz
  have hk1 := (HK0.out).trans hk (fun _ _ f => f)
  have HN2 := Lib.hid (newP_any 8 (w := w1) (B := w.heap.size) hk1.size)
  have HP := Lib.hid hp
  have HK1 := Lib.hid hk1
  have HSZ := Lib.hid (show w1.heap.size = w.heap.size + 2 by omega)
  clear hp hk hk1 hsz
  go_wp2_with fail
  refine (HN2.out).mono ?_
  rintro r w2 ⟨rfl, hq, hk, hsz⟩
  rw [if_pos (by omega)] at hq
  have hp := (HP.out).kept hk (fun _ _ f => f)
  have hk2 := (HK1.out).trans hk (fun _ _ f => f)
  have HL := Lib.hid (live_any w2)
  have HP2 := Lib.hid hp
  have HQ2 := Lib.hid hq
  have HK2 := Lib.hid hk2
  clear hp hq hk hk2 hsz
  go_wp2_with fail
  refine (HL.out).mono ?_
  rintro r w3 ⟨rfl, hk⟩
  have hp := (HP2.out).kept hk (fun _ _ f => f)
  have hq := (HQ2.out).kept hk (fun _ _ f => f)
  have hk3 := (HK2.out).trans hk (fun _ _ f => f)
  have hput := put_any 1 a 0 ha0 HA1.out hk3.size hp (Sees.nil w3) (Away.nil _ _) (by simp)
  rw [item_1] at hput
  have HPut := Lib.hid hput
  have HQ3 := Lib.hid hq
  have HK3 := Lib.hid hk3
  have HS3 := Lib.hid (lt_of_blk hq.cell)
  clear hp hq hk hk3 hput
  go_wp2_with fail
  refine (HPut.out).mono ?_
  rintro r w4 ⟨rfl, v4, hp, hk, hf⟩
  have hq := (HQ3.out).kept hk (fun x hx hh => by
    rcases hx with rfl | hx
    · rcases hh with hh | hh
      · have := HSZ.out; omega
      · cases hh
    · cases hx)
  have hk4 : Kp (fun _ => False) w w4 := (HK3.out).trans hk (fun x hx hh => by
    rcases hh with rfl | hh
    · have := HSZ.out; omega
    · cases hh)
  have hput := put_any 1 b 0 hb0 HB1.out hk4.size hq (Sees.nil w4) (Away.nil _ _) (by simp)
  rw [item_1] at hput
  have HPut2 := Lib.hid hput
  have HP4 := Lib.hid hp
  have HK4 := Lib.hid hk4
  have hn4 : ∀ g, v4.ownBlock = some g → w3.heap.size ≤ g := by
    rcases hf with hf | hf
    · intro g hg; rw [hf] at hg; cases hg
    · exact hf
  have HF4 := Lib.hid hn4
  clear hp hq hk hk4 hput hf hn4
  go_wp2_with fail
  refine (HPut2.out).mono ?_
  rintro r w5 ⟨rfl, v5, hq, hk, _⟩
  have hp := (HP4.out).kept hk (fun x hx hh => by
    rcases hh with hh | hh
    · rcases hx with hx | hx
      · have := HSZ.out; omega
      · have := HF4.out _ hx; have := HS3.out; omega
    · cases hh)
  have hk5 : Kp (fun _ => False) w w5 := (HK4.out).trans hk (fun x hx hh => by
    rcases hh with rfl | hh
    · have := HSZ.out; omega
    · cases hh)
  have HO := Lib.hid (pout_any hp (by rw [be_length]; omega))
  have HQ5 := Lib.hid hq
  have HK5 := Lib.hid hk5
  clear hp hq hk hk5
  go_wp2_with fail
  refine (HO.out).mono ?_
  rintro r w6 ⟨x6, rfl, hown, hk⟩
  rw [if_pos rfl] at hown
  have hq := (HQ5.out).kept hk (fun _ _ f => f)
  have HK6 := Lib.hid ((HK5.out).trans hk (fun _ _ f => f))
  have HX6 := Lib.hid hown.sees
  have HO2 := Lib.hid (pout_any hq (by rw [be_length]; omega))
  clear hq hk hown
  go_wp2_with fail
  refine (HO2.out).mono ?_
  rintro r w7 ⟨y7, rfl, hown, hk⟩
  rw [if_pos rfl] at hown
  have hx7 := (HX6.out).kept hk (fun _ _ _ f => f)
  have hy7 := hown.sees
  obtain ⟨xa, xc, hxv⟩ := sees_form hx7
  obtain ⟨ya, yc, hyv⟩ := sees_form hy7
  rw [be_length] at hxv hyv
  subst hxv hyv
  have HK7 := Lib.hid ((HK6.out).trans hk (fun _ _ f => f))
  have htail := fun n => order_tail (w := w7.drewN n) 1 (a % 256) (b % 256) hx7 hy7 (by omega) (by have := HA1.out; have := HB1.out; omega) (by omega) (by have := HA1.out; have := HB1.out; omega)
  have HT := Lib.hid htail
  clear hk hown hx7 hy7 htail
  go_wp2_with fail
  go_quiet (fail)
  rename_i nq
  go_wp2_with fail
  obtain ⟨c, q, hC, hE, hcase⟩ := HT.out nq
  have HC := Lib.hid hC
  have HE := Lib.hid hE
  clear hC hE
  rcases hcase with ⟨hc, hl, rfl, hb⟩ | ⟨hc, hl, rfl, hb⟩ | ⟨hc, hl, rfl, hb⟩
  all_goals
    refine (HC.out).mono ?_
    rintro r w8 ⟨rfl, rfl⟩
    go_wp2_with fail
    refine (HE.out).mono ?_
    rintro r w8 ⟨rfl, rfl⟩
    go_wp2_with fail
    go_ret
    exact ⟨rfl, (HK7.out).drewN nq⟩

theorem item_2 (a : Int) : itemS 8 [] 0 2 a [] = (be 2 (a % 65536), 0) := by
  have h : putS 8 [] 0 (be 2 (a % 65536)) = (be 2 (a % 65536), 0) := by
    unfold putS; rw [if_pos rfl, if_pos (by rw [be_length]; decide)]; rfl
  unfold itemS
  simpa using h
set_option maxHeartbeats 2000000 in
theorem order_2 (a b width : Int) (ha0 : 0 ≤ a) (ha1 : a ≤ 18446744073709551615) (hb0 : 0 ≤ b) (hb1 : b ≤ 18446744073709551615) (hw0 : 0 ≤ width) (hw : width % 4 = 1) (w : World) :
    Calls Try.prog 6 #[.int .u64 a, .int .u64 b, .int .u8 width] w fun r w' => r = .returned (.bool true) ∧ Kp (fun _ => False) w w' := by
  have hk0 : Kp (fun _ => False) w (w.alloc (.cells #[.int .i64 1, .int .i64 2, .int .i64 4, .int .i64 8] 3)) := (Kp.refl _ _).alloc _
  have HN1 := Lib.hid (newP_any 8 (w := w.alloc (.cells #[.int .i64 1, .int .i64 2, .int .i64 4, .int .i64 8] 3)) (B := w.heap.size) hk0.size)
  have HK0 := Lib.hid hk0
  have HA1 := Lib.hid ha1
  have HB1 := Lib.hid hb1
  clear hk0 ha1 hb1
  go_enter Try.func6, Try.ntmps6
  go_wp2_with fail
  have HW := Lib.hid hw
  clear hw
  refine (HN1.out).mono ?_
  rintro r w1 ⟨rfl, hp, hk, hsz⟩
  rw [if_pos (by omega)] at hp
  rw [World.size_alloc] at hp hsz
  have hk1 := (HK0.out).trans hk (fun _ _ f => f)
  have HN2 := Lib.hid (newP_any 8 (w := w1) (B := w.heap.size) hk1.size)
  have HP := Lib.hid hp
  have HK1 := Lib.hid hk1
  have HSZ := Lib.hid (show w1.heap.size = w.heap.size + 2 by omega)
  clear hp hk hk1 hsz
  go_wp2_with fail
  refine (HN2.out).mono ?_
  rintro r w2 ⟨rfl, hq, hk, hsz⟩
  rw [if_pos (by omega)] at hq
  have hp := (HP.out).kept hk (fun _ _ f => f)
  have hk2 := (HK1.out).trans hk (fun _ _ f => f)
  have HL := Lib.hid (live_any w2)
  have HP2 := Lib.hid hp
  have HQ2 := Lib.hid hq
  have HK2 := Lib.hid hk2
  clear hp hq hk hk2 hsz
  go_wp2_with fail
  refine (HL.out).mono ?_
  rintro r w3 ⟨rfl, hk⟩
  have hp := (HP2.out).kept hk (fun _ _ f => f)
  have hq := (HQ2.out).kept hk (fun _ _ f => f)
  have hk3 := (HK2.out).trans hk (fun _ _ f => f)
  have hput := put_any 2 a 0 ha0 HA1.out hk3.size hp (Sees.nil w3) (Away.nil _ _) (by simp)
  rw [item_2] at hput
  have HPut := Lib.hid hput
  have HQ3 := Lib.hid hq
  have HK3 := Lib.hid hk3
  have HS3 := Lib.hid (lt_of_blk hq.cell)
  clear hp hq hk hk3 hput
  go_wp2_with fail
  refine (HPut.out).mono ?_
  rintro r w4 ⟨rfl, v4, hp, hk, hf⟩
  have hq := (HQ3.out).kept hk (fun x hx hh => by
    rcases hx with rfl | hx
    · rcases hh with hh | hh
      · have := HSZ.out; omega
      · cases hh
    · cases hx)
  have hk4 : Kp (fun _ => False) w w4 := (HK3.out).trans hk (fun x hx hh => by
    rcases hh with rfl | hh
    · have := HSZ.out; omega
    · cases hh)
  have hput := put_any 2 b 0 hb0 HB1.out hk4.size hq (Sees.nil w4) (Away.nil _ _) (by simp)
  rw [item_2] at hput
  have HPut2 := Lib.hid hput
  have HP4 := Lib.hid hp
  have HK4 := Lib.hid hk4
  have hn4 : ∀ g, v4.ownBlock = some g → w3.heap.size ≤ g := by
    rcases hf with hf | hf
    · intro g hg; rw [hf] at hg; cases hg
    · exact hf
  have HF4 := Lib.hid hn4
  clear hp hq hk hk4 hput hf hn4
  go_wp2_with fail
  refine (HPut2.out).mono ?_
  rintro r w5 ⟨rfl, v5, hq, hk, _⟩
  have hp := (HP4.out).kept hk (fun x hx hh => by
    rcases hh with hh | hh
    · rcases hx with hx | hx
      · have := HSZ.out; omega
      · have := HF4.out _ hx; have := HS3.out; omega
    · cases hh)
  have hk5 : Kp (fun _ => False) w w5 := (HK4.out).trans hk (fun x hx hh => by
    rcases hh with rfl | hh
    · have := HSZ.out; omega
    · cases hh)
  have HO := Lib.hid (pout_any hp (by rw [be_length]; omega))
  have HQ5 := Lib.hid hq
  have HK5 := Lib.hid hk5
  clear hp hq hk hk5
  go_wp2_with fail
  refine (HO.out).mono ?_
  rintro r w6 ⟨x6, rfl, hown, hk⟩
  rw [if_pos rfl] at hown
  have hq := (HQ5.out).kept hk (fun _ _ f => f)
  have HK6 := Lib.hid ((HK5.out).trans hk (fun _ _ f => f))
  have HX6 := Lib.hid hown.sees
  have HO2 := Lib.hid (pout_any hq (by rw [be_length]; omega))
  clear hq hk hown
  go_wp2_with fail
  refine (HO2.out).mono ?_
  rintro r w7 ⟨y7, rfl, hown, hk⟩
  rw [if_pos rfl] at hown
  have hx7 := (HX6.out).kept hk (fun _ _ _ f => f)
  have hy7 := hown.sees
  obtain ⟨xa, xc, hxv⟩ := sees_form hx7
  obtain ⟨ya, yc, hyv⟩ := sees_form hy7
  rw [be_length] at hxv hyv
  subst hxv hyv
  have HK7 := Lib.hid ((HK6.out).trans hk (fun _ _ f => f))
  have htail := fun n => order_tail (w := w7.drewN n) 2 (a % 65536) (b % 65536) hx7 hy7 (by omega) (by have := HA1.out; have := HB1.out; omega) (by omega) (by have := HA1.out; have := HB1.out; omega)
  have HT := Lib.hid htail
  clear hk hown hx7 hy7 htail
  go_wp2_with fail
  go_quiet (fail)
  rename_i nq
  go_wp2_with fail
  obtain ⟨c, q, hC, hE, hcase⟩ := HT.out nq
  have HC := Lib.hid hC
  have HE := Lib.hid hE
  clear hC hE
  rcases hcase with ⟨hc, hl, rfl, hb⟩ | ⟨hc, hl, rfl, hb⟩ | ⟨hc, hl, rfl, hb⟩
  all_goals
    refine (HC.out).mono ?_
    rintro r w8 ⟨rfl, rfl⟩
    go_wp2_with fail
    refine (HE.out).mono ?_
    rintro r w8 ⟨rfl, rfl⟩
    go_wp2_with fail
    go_ret
    exact ⟨rfl, (HK7.out).drewN nq⟩

theorem item_4 (a : Int) : itemS 8 [] 0 4 a [] = (be 4 (a % 4294967296), 0) := by
  have h : putS 8 [] 0 (be 4 (a % 4294967296)) = (be 4 (a % 4294967296), 0) := by
    unfold putS; rw [if_pos rfl, if_pos (by rw [be_length]; decide)]; rfl
  unfold itemS
  simpa using h
set_option maxHeartbeats 2000000 in
theorem order_4 (a b width : Int) (ha0 : 0 ≤ a) (ha1 : a ≤ 18446744073709551615) (hb0 : 0 ≤ b) (hb1 : b ≤ 18446744073709551615) (hw0 : 0 ≤ width) (hw : width % 4 = 2) (w : World) :
    Calls Try.prog 6 #[.int .u64 a, .int .u64 b, .int .u8 width] w fun r w' => r = .returned (.bool true) ∧ Kp (fun _ => False) w w' := by
  have hk0 : Kp (fun _ => False) w (w.alloc (.cells #[.int .i64 1, .int .i64 2, .int .i64 4, .int .i64 8] 3)) := (Kp.refl _ _).alloc _
  have HN1 := Lib.hid (newP_any 8 (w := w.alloc (.cells #[.int .i64 1, .int .i64 2, .int .i64 4, .int .i64 8] 3)) (B := w.heap.size) hk0.size)
  have HK0 := Lib.hid hk0
  have HA1 := Lib.hid ha1
  have HB1 := Lib.hid hb1
  clear hk0 ha1 hb1
  go_enter Try.func6, Try.ntmps6
  go_wp2_with fail
  have HW := Lib.hid hw
  clear hw
  refine (HN1.out).mono ?_
  rintro r w1 ⟨rfl, hp, hk, hsz⟩
  rw [if_pos (by omega)] at hp
  rw [World.size_alloc] at hp hsz
  have hk1 := (HK0.out).trans hk (fun _ _ f => f)
  have HN2 := Lib.hid (newP_any 8 (w := w1) (B := w.heap.size) hk1.size)
  have HP := Lib.hid hp
  have HK1 := Lib.hid hk1
  have HSZ := Lib.hid (show w1.heap.size = w.heap.size + 2 by omega)
  clear hp hk hk1 hsz
  go_wp2_with fail
  refine (HN2.out).mono ?_
  rintro r w2 ⟨rfl, hq, hk, hsz⟩
  rw [if_pos (by omega)] at hq
  have hp := (HP.out).kept hk (fun _ _ f => f)
  have hk2 := (HK1.out).trans hk (fun _ _ f => f)
  have HL := Lib.hid (live_any w2)
  have HP2 := Lib.hid hp
  have HQ2 := Lib.hid hq
  have HK2 := Lib.hid hk2
  clear hp hq hk hk2 hsz
  go_wp2_with fail
  refine (HL.out).mono ?_
  rintro r w3 ⟨rfl, hk⟩
  have hp := (HP2.out).kept hk (fun _ _ f => f)
  have hq := (HQ2.out).kept hk (fun _ _ f => f)
  have hk3 := (HK2.out).trans hk (fun _ _ f => f)
  have hput := put_any 4 a 0 ha0 HA1.out hk3.size hp (Sees.nil w3) (Away.nil _ _) (by simp)
  rw [item_4] at hput
  have HPut := Lib.hid hput
  have HQ3 := Lib.hid hq
  have HK3 := Lib.hid hk3
  have HS3 := Lib.hid (lt_of_blk hq.cell)
  clear hp hq hk hk3 hput
  go_wp2_with fail
  refine (HPut.out).mono ?_
  rintro r w4 ⟨rfl, v4, hp, hk, hf⟩
  have hq := (HQ3.out).kept hk (fun x hx hh => by
    rcases hx with rfl | hx
    · rcases hh with hh | hh
      · have := HSZ.out; omega
      · cases hh
    · cases hx)
  have hk4 : Kp (fun _ => False) w w4 := (HK3.out).trans hk (fun x hx hh => by
    rcases hh with rfl | hh
    · have := HSZ.out; omega
    · cases hh)
  have hput := put_any 4 b 0 hb0 HB1.out hk4.size hq (Sees.nil w4) (Away.nil _ _) (by simp)
  rw [item_4] at hput
  have HPut2 := Lib.hid hput
  have HP4 := Lib.hid hp
  have HK4 := Lib.hid hk4
  have hn4 : ∀ g, v4.ownBlock = some g → w3.heap.size ≤ g := by
    rcases hf with hf | hf
    · intro g hg; rw [hf] at hg; cases hg
    · exact hf
  have HF4 := Lib.hid hn4
  clear hp hq hk hk4 hput hf hn4
  go_wp2_with fail
  refine (HPut2.out).mono ?_
  rintro r w5 ⟨rfl, v5, hq, hk, _⟩
  have hp := (HP4.out).kept hk (fun x hx hh => by
    rcases hh with hh | hh
    · rcases hx with hx | hx
      · have := HSZ.out; omega
      · have := HF4.out _ hx; have := HS3.out; omega
    · cases hh)
  have hk5 : Kp (fun _ => False) w w5 := (HK4.out).trans hk (fun x hx hh => by
    rcases hh with rfl | hh
    · have := HSZ.out; omega
    · cases hh)
  have HO := Lib.hid (pout_any hp (by rw [be_length]; omega))
  have HQ5 := Lib.hid hq
  have HK5 := Lib.hid hk5
  clear hp hq hk hk5
  go_wp2_with fail
  refine (HO.out).mono ?_
  rintro r w6 ⟨x6, rfl, hown, hk⟩
  rw [if_pos rfl] at hown
  have hq := (HQ5.out).kept hk (fun _ _ f => f)
  have HK6 := Lib.hid ((HK5.out).trans hk (fun _ _ f => f))
  have HX6 := Lib.hid hown.sees
  have HO2 := Lib.hid (pout_any hq (by rw [be_length]; omega))
  clear hq hk hown
  go_wp2_with fail
  refine (HO2.out).mono ?_
  rintro r w7 ⟨y7, rfl, hown, hk⟩
  rw [if_pos rfl] at hown
  have hx7 := (HX6.out).kept hk (fun _ _ _ f => f)
  have hy7 := hown.sees
  obtain ⟨xa, xc, hxv⟩ := sees_form hx7
  obtain ⟨ya, yc, hyv⟩ := sees_form hy7
  rw [be_length] at hxv hyv
  subst hxv hyv
  have HK7 := Lib.hid ((HK6.out).trans hk (fun _ _ f => f))
  have htail := fun n => order_tail (w := w7.drewN n) 4 (a % 4294967296) (b % 4294967296) hx7 hy7 (by omega) (by have := HA1.out; have := HB1.out; omega) (by omega) (by have := HA1.out; have := HB1.out; omega)
  have HT := Lib.hid htail
  clear hk hown hx7 hy7 htail
  go_wp2_with fail
  go_quiet (fail)
  rename_i nq
  go_wp2_with fail
  obtain ⟨c, q, hC, hE, hcase⟩ := HT.out nq
  have HC := Lib.hid hC
  have HE := Lib.hid hE
  clear hC hE
  rcases hcase with ⟨hc, hl, rfl, hb⟩ | ⟨hc, hl, rfl, hb⟩ | ⟨hc, hl, rfl, hb⟩
  all_goals
    refine (HC.out).mono ?_
    rintro r w8 ⟨rfl, rfl⟩
    go_wp2_with fail
    refine (HE.out).mono ?_
    rintro r w8 ⟨rfl, rfl⟩
    go_wp2_with fail
    go_ret
    exact ⟨rfl, (HK7.out).drewN nq⟩

theorem item_8 (a : Int) : itemS 8 [] 0 8 a [] = (be 8 (a), 0) := by
  have h : putS 8 [] 0 (be 8 (a)) = (be 8 (a), 0) := by
    unfold putS; rw [if_pos rfl, if_pos (by rw [be_length]; decide)]; rfl
  unfold itemS
  simpa using h
set_option maxHeartbeats 2000000 in
theorem order_8 (a b width : Int) (ha0 : 0 ≤ a) (ha1 : a ≤ 18446744073709551615) (hb0 : 0 ≤ b) (hb1 : b ≤ 18446744073709551615) (hw0 : 0 ≤ width) (hw : width % 4 = 3) (w : World) :
    Calls Try.prog 6 #[.int .u64 a, .int .u64 b, .int .u8 width] w fun r w' => r = .returned (.bool true) ∧ Kp (fun _ => False) w w' := by
  have hk0 : Kp (fun _ => False) w (w.alloc (.cells #[.int .i64 1, .int .i64 2, .int .i64 4, .int .i64 8] 3)) := (Kp.refl _ _).alloc _
  have HN1 := Lib.hid (newP_any 8 (w := w.alloc (.cells #[.int .i64 1, .int .i64 2, .int .i64 4, .int .i64 8] 3)) (B := w.heap.size) hk0.size)
  have HK0 := Lib.hid hk0
  have HA1 := Lib.hid ha1
  have HB1 := Lib.hid hb1
  clear hk0 ha1 hb1
  go_enter Try.func6, Try.ntmps6
  go_wp2_with fail
  have HW := Lib.hid hw
  clear hw
  refine (HN1.out).mono ?_
  rintro r w1 ⟨rfl, hp, hk, hsz⟩
  rw [if_pos (by omega)] at hp
  rw [World.size_alloc] at hp hsz
  have hk1 := (HK0.out).trans hk (fun _ _ f => f)
  have HN2 := Lib.hid (newP_any 8 (w := w1) (B := w.heap.size) hk1.size)
  have HP := Lib.hid hp
  have HK1 := Lib.hid hk1
  have HSZ := Lib.hid (show w1.heap.size = w.heap.size + 2 by omega)
  clear hp hk hk1 hsz
  go_wp2_with fail
  refine (HN2.out).mono ?_
  rintro r w2 ⟨rfl, hq, hk, hsz⟩
  rw [if_pos (by omega)] at hq
  have hp := (HP.out).kept hk (fun _ _ f => f)
  have hk2 := (HK1.out).trans hk (fun _ _ f => f)
  have HL := Lib.hid (live_any w2)
  have HP2 := Lib.hid hp
  have HQ2 := Lib.hid hq
  have HK2 := Lib.hid hk2
  clear hp hq hk hk2 hsz
  go_wp2_with fail
  refine (HL.out).mono ?_
  rintro r w3 ⟨rfl, hk⟩
  have hp := (HP2.out).kept hk (fun _ _ f => f)
  have hq := (HQ2.out).kept hk (fun _ _ f => f)
  have hk3 := (HK2.out).trans hk (fun _ _ f => f)
  have hput := put_any 8 a 0 ha0 HA1.out hk3.size hp (Sees.nil w3) (Away.nil _ _) (by simp)
  rw [item_8] at hput
  have HPut := Lib.hid hput
  have HQ3 := Lib.hid hq
  have HK3 := Lib.hid hk3
  have HS3 := Lib.hid (lt_of_blk hq.cell)
  clear hp hq hk hk3 hput
  go_wp2_with fail
  refine (HPut.out).mono ?_
  rintro r w4 ⟨rfl, v4, hp, hk, hf⟩
  have hq := (HQ3.out).kept hk (fun x hx hh => by
    rcases hx with rfl | hx
    · rcases hh with hh | hh
      · have := HSZ.out; omega
      · cases hh
    · cases hx)
  have hk4 : Kp (fun _ => False) w w4 := (HK3.out).trans hk (fun x hx hh => by
    rcases hh with rfl | hh
    · have := HSZ.out; omega
    · cases hh)
  have hput := put_any 8 b 0 hb0 HB1.out hk4.size hq (Sees.nil w4) (Away.nil _ _) (by simp)
  rw [item_8] at hput
  have HPut2 := Lib.hid hput
  have HP4 := Lib.hid hp
  have HK4 := Lib.hid hk4
  have hn4 : ∀ g, v4.ownBlock = some g → w3.heap.size ≤ g := by
    rcases hf with hf | hf
    · intro g hg; rw [hf] at hg; cases hg
    · exact hf
  have HF4 := Lib.hid hn4
  clear hp hq hk hk4 hput hf hn4
  go_wp2_with fail
  refine (HPut2.out).mono ?_
  rintro r w5 ⟨rfl, v5, hq, hk, _⟩
  have hp := (HP4.out).kept hk (fun x hx hh => by
    rcases hh with hh | hh
    · rcases hx with hx | hx
      · have := HSZ.out; omega
      · have := HF4.out _ hx; have := HS3.out; omega
    · cases hh)
  have hk5 : Kp (fun _ => False) w w5 := (HK4.out).trans hk (fun x hx hh => by
    rcases hh with rfl | hh
    · have := HSZ.out; omega
    · cases hh)
  have HO := Lib.hid (pout_any hp (by rw [be_length]; omega))
  have HQ5 := Lib.hid hq
  have HK5 := Lib.hid hk5
  clear hp hq hk hk5
  go_wp2_with fail
  refine (HO.out).mono ?_
  rintro r w6 ⟨x6, rfl, hown, hk⟩
  rw [if_pos rfl] at hown
  have hq := (HQ5.out).kept hk (fun _ _ f => f)
  have HK6 := Lib.hid ((HK5.out).trans hk (fun _ _ f => f))
  have HX6 := Lib.hid hown.sees
  have HO2 := Lib.hid (pout_any hq (by rw [be_length]; omega))
  clear hq hk hown
  go_wp2_with fail
  refine (HO2.out).mono ?_
  rintro r w7 ⟨y7, rfl, hown, hk⟩
  rw [if_pos rfl] at hown
  have hx7 := (HX6.out).kept hk (fun _ _ _ f => f)
  have hy7 := hown.sees
  obtain ⟨xa, xc, hxv⟩ := sees_form hx7
  obtain ⟨ya, yc, hyv⟩ := sees_form hy7
  rw [be_length] at hxv hyv
  subst hxv hyv
  have HK7 := Lib.hid ((HK6.out).trans hk (fun _ _ f => f))
  have htail := fun n => order_tail (w := w7.drewN n) 8 (a) (b) hx7 hy7 (by omega) (by have := HA1.out; have := HB1.out; omega) (by omega) (by have := HA1.out; have := HB1.out; omega)
  have HT := Lib.hid htail
  clear hk hown hx7 hy7 htail
  go_wp2_with fail
  skip
  obtain ⟨c, q, hC, hE, hcase⟩ := HT.out 0
  have HC := Lib.hid hC
  have HE := Lib.hid hE
  clear hC hE
  rcases hcase with ⟨hc, hl, rfl, hb⟩ | ⟨hc, hl, rfl, hb⟩ | ⟨hc, hl, rfl, hb⟩
  all_goals
    refine (HC.out).mono ?_
    rintro r w8 ⟨rfl, rfl⟩
    go_wp2_with fail
    refine (HE.out).mono ?_
    rintro r w8 ⟨rfl, rfl⟩
    go_wp2_with fail
    go_ret
    exact ⟨rfl, (HK7.out)⟩

end Go.Proofs.Ytahdnapinlbflaa
