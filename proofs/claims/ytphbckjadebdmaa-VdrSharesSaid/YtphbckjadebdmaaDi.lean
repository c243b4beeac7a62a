/-
  Which units one has: the document's.
-/
import Derived.Test.YtphbckjadebdmaaDh
import Derived.Deep.Cut
namespace Go.Proofs.Ytphbckjadebdmaa
open Go.RowKit

theorem totalV_take {l : List Vd} (h : GoodV l) {m : Nat} (hm : m ≤ l.length) : totalV (l.take m) = sumV (l.take m) := by
  unfold totalV
  rcases Nat.eq_zero_or_pos m with h0 | h0
  · subst h0
    cases h1 : decide (checkE (List.take 0 l) = 0) <;> simp [sumV]
  · rw [decide_eq_true (checkE_ok.2 (h.take h0 hm))]; rfl
theorem vok_take {l : List Vd} (h : VOk l) (m : Nat) : VOk (l.take m) := fun x hx => h x (List.mem_of_mem_take hx)

set_option maxRecDepth 100000 in
set_option maxHeartbeats 1600000 in
theorem runits_any {v : Value} {l : List Vd} {w : World} (hs : SeesV w v l) (hv : VOk l) (i : Int) (hi : i ≤ 9223372036854775807) : Calls Try.prog 28 #[v, .int .i64 i] w fun e w' => e = .returned (.tuple #[.int .i64 (unitsV l i).1, .int .i64 (unitsV l i).2]) ∧ Kp (fun _ => False) w w' := by
  obtain ⟨a, c, rfl, hlc, hmax⟩ := hs.form
  have HS := Lib.hid hs
  have HV := Lib.hid hv
  have HC := Lib.hid (rcheck_any hs hv)
  obtain ⟨q1, h1⟩ : ∃ q, q = (unitsV l i).1 := ⟨_, rfl⟩
  obtain ⟨q2, h2⟩ : ∃ q, q = (unitsV l i).2 := ⟨_, rfl⟩
  rw [← h1, ← h2]
  obtain ⟨ce, hce⟩ : ∃ ce, ce = checkE l := ⟨_, rfl⟩
  have HZ := Lib.hid (fun (h : ce ≠ 0 ∨ i < 0 ∨ l.length ≤ i) => (show q1 = 0 ∧ q2 = 0 by rw [h1, h2, unitsV_no (by rw [← hce]; exact h)]; exact ⟨rfl, rfl⟩))
  have HY := Lib.hid (fun (h : ce = 0) (k : Nat) (x : Vd) (hik : i = k) (hk : l[k]? = some x) => (show q1 = sumV (l.take k) ∧ q2 = x.wt by rw [h1, h2, hik, unitsV_at (by rw [← hce]; exact h) hk]; exact ⟨rfl, rfl⟩))
  have HG := Lib.hid (fun (h : ce = 0) => checkE_ok.1 (hce.symm.trans h))
  rw [← hce] at HC
  clear hs hv h1 h2 hce
  go_enter Try.func28, Try.ntmps28
  go_wp2_with fail
  refine HC.out.mono ?_
  rintro e w2 ⟨rfl, k2⟩
  have K2 := Lib.hid k2
  clear k2
  by_cases h0 : ce = 0
  · have h0' : (ce != 0) = false := by simp [h0]
    by_cases hn : i < 0
    · obtain ⟨rfl, rfl⟩ := HZ.out (.inr (.inl hn))
      go_wp2
      go_ret2
      exact ⟨rfl, K2.out⟩
    · by_cases hn2 : (l.length : Int) ≤ i
      · obtain ⟨rfl, rfl⟩ := HZ.out (.inr (.inr hn2))
        go_wp2
        go_ret2
        exact ⟨rfl, K2.out⟩
      · have G := HG.out h0
        obtain ⟨m, rfl⟩ : ∃ m : Nat, i = m := ⟨i.toNat, by omega⟩
        have hm : m < l.length := by omega
        obtain ⟨y, hy⟩ : ∃ y, l[m]? = some y := ⟨l[m], by simp [hm]⟩
        obtain ⟨e1, e2⟩ := HY.out h0 m y rfl hy
        obtain ⟨g, off, rfl, _, _, hcy⟩ := (HS.out.kept K2.out).at hy
        have HT := Lib.hid (fun w' (k : Kp (fun _ => False) w2 w') => rtotal_any ((HS.out.kept (K2.out.trans k (fun _ _ f => f))).take (Nat.le_of_lt hm)) (vok_take HV.out m))
        rw [totalV_take G (Nat.le_of_lt hm), ← e1] at HT
        have HYC := Lib.hid (fun w' (k : Kp (fun _ => False) w2 w') => (show w'.cell? ⟨g, off + m * 2 + 1, none⟩ = some (.int .i64 q2) by rw [k.cell (lt_of_cell hcy) (fun f => f), e2]; exact hcy))
        have p0 : (0 : Int) ≤ m := by omega
        have p1 : (m : Int) < l.length := by omega
        have p2 : (m : Int) ≤ c := by omega
        clear G e1 e2 hy hcy HY HZ
        go_upto_region 3 with (fail)
        refine wp_kept (W := w2) (by kernel_rfl) (by kernel_rfl) (Kp.refl _ _) ?_
        repeat (first
          | go_big_quiet_skip
          | (go_big_quiet_want; refine quiet_load_cell 2 _ rfl ⟨g, off + m * 2 + 1, none⟩ rfl (.int .i64 q2) _ HYC.out Try.underlying2 rfl ?_; (simp only [Act.put, List.setIfInBounds_toArray, List.set_cons_zero, List.set_cons_succ]); go_big_quiet_on)
          | (go_big_quiet_want; go_big_quiet_op; first | go_big_quiet_on | go_big_quiet_call ((intro hk; first
              | with_reducible rfl
              | (go_at_call 17; exact (HT.out _ hk).mono (fun e w' h => ⟨h.1, hk.trans h.2 (fun _ _ f => f)⟩))))))
        refine wpQuiet_nil ?_
        intro w4 k4
        have K4 := Lib.hid (K2.out.trans k4 (fun _ _ f => f))
        clear k4
        go_wp2_with fail
        go_ret2
        exact ⟨rfl, K4.out⟩
  · have h0' : (ce != 0) = true := by simp [h0]
    obtain ⟨rfl, rfl⟩ := HZ.out (.inl h0)
    go_wp2
    go_ret2
    exact ⟨rfl, K2.out⟩
end Go.Proofs.Ytphbckjadebdmaa
