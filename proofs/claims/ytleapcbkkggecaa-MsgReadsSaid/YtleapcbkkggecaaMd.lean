/-
  Messages: contracts of the program's Check, of the document's Check, and of the laws' own few.
-/
import Derived.Test.YtleapcbkkggecaaMc
namespace Go.Proofs.Ytleapcbkkggecaa
open Go.ChangeShapes Go.WideShapes Go.ChangeAt Go.RowKit
variable {A : Nat → Prop}

theorem neq_cast' (n : Nat) : ((n : Int) != 0) = !decide (n = 0) := by rw [show ((n : Int) != 0) = !((n : Int) == 0) from rfl, len_eq0]
set_option maxRecDepth 100000 in
set_option maxHeartbeats 1000000 in
theorem mcheck_any {vi vb : Value} {m : Ms} {w : World} (hs : SeesM A w vi vb m) :
    Calls Try.prog 10 #[msV m.k m.r vi vb] w fun e w' => e = .returned (.int .i64 (chk m)) ∧ Kp (fun _ => False) w w' := by
  obtain ⟨a1, c1, rfl, hm1⟩ := hs.i.form
  obtain ⟨a2, c2, rfl, hm2⟩ := hs.b.form
  have k1 : Kp (fun _ => False) w (w.alloc (.cells #[.int .i64 m.k, .int .i64 m.r, .slice a1 m.ids.length c1, .slice a2 m.bl.length c2] 25)) := (Kp.refl _ _).alloc _
  have hat := MsAt.new w m.k m.r (.slice a1 m.ids.length c1) (.slice a2 m.bl.length c2)
  obtain ⟨x0, x1, x2, x3, _⟩ := hat.cells
  have hbr := bearsRightly_any (hs.old k1)
  unfold msV at hbr
  have hd : chk m = if m.r < 0 then 40 else if 2147483647 < m.r then 40 else if (ldOf m.k).fits m then 0 else 40 := by
    unfold chk okM
    by_cases h1 : m.r < 0
    · simp [h1, show ¬ 0 ≤ m.r by omega]
    · by_cases h2 : 2147483647 < m.r
      · simp [h1, h2, show ¬ m.r ≤ 2147483647 by omega]
      · simp [h1, h2, show 0 ≤ m.r by omega, show m.r ≤ 2147483647 by omega]
  obtain ⟨f, hf⟩ : ∃ f, f = (ldOf m.k).fits m := ⟨_, rfl⟩
  rw [← hf] at hbr hd
  have HB := Lib.hid hbr
  have HD := Lib.hid hd
  have K1 := Lib.hid k1
  clear hs hbr hd k1 hf hat
  by_cases h1 : m.r < 0
  · have HE := Lib.hid (show chk m = 40 by rw [HD.out, if_pos h1])
    go_enter Try.func10, Try.ntmps10
    unfold msV
    go_wp2_with fail
    go_ret
    exact ⟨by rw [HE.out]; rfl, K1.out⟩
  · by_cases h2 : 2147483647 < m.r
    · have HE := Lib.hid (show chk m = 40 by rw [HD.out, if_neg h1, if_pos h2])
      go_enter Try.func10, Try.ntmps10
      unfold msV
      go_wp2_with fail
      go_ret
      exact ⟨by rw [HE.out]; rfl, K1.out⟩
    · have HE := Lib.hid (show chk m = if f then 0 else 40 by rw [HD.out, if_neg h1, if_neg h2])
      cases f
      all_goals
        go_enter Try.func10, Try.ntmps10
        unfold msV
        go_wp2_with fail
        refine HB.out.mono ?_
        rintro e w2 ⟨rfl, k2⟩
        have K2 := Lib.hid (K1.out.trans k2 (fun _ _ f => f))
        clear k2
        go_wp2_with fail
        go_ret
        exact ⟨by rw [HE.out]; rfl, K2.out⟩

/-! ### the document's -/
theorem bears_how (l : Ld) : (l.bears.2.2 < 0 ↔ l = .no) ∧ (∀ a b, l = .nm a b → l.bears.1 = a ∧ l.bears.2.1 = b ∧ 0 ≤ l.bears.2.2 ∧ l.bears.2.2 < 3) ∧ (∀ a b, l = .bl a b → l.bears.1 = a ∧ l.bears.2.1 = b ∧ 3 ≤ l.bears.2.2) := by
  refine ⟨?_, ?_, ?_⟩
  · cases l with
    | no => simp [Ld.bears]
    | nm a b => simp only [Ld.bears]; split <;> (try split) <;> simp
    | bl a b => simp only [Ld.bears]; split <;> simp
  · rintro a b rfl
    simp only [Ld.bears, true_and]
    split <;> (try split) <;> omega
  · rintro a b rfl
    simp only [Ld.bears, true_and]
    split <;> omega

set_option maxRecDepth 100000 in
set_option maxHeartbeats 2000000 in
theorem rmcheck_any {vi vb : Value} {m : Ms} {w : World} (hs : SeesM A w vi vb m) :
    Calls Try.prog 11 #[msV m.k m.r vi vb] w fun e w' => e = .returned (.int .i64 (chk m)) ∧ Kp (fun _ => False) w w' := by
  obtain ⟨a1, c1, rfl, hm1⟩ := hs.i.form
  obtain ⟨a2, c2, rfl, hm2⟩ := hs.b.form
  have k1 : Kp (fun _ => False) w (w.alloc (.cells #[.int .i64 m.k, .int .i64 m.r, .slice a1 m.ids.length c1, .slice a2 m.bl.length c2] 25)) := (Kp.refl _ _).alloc _
  have hat := MsAt.new w m.k m.r (.slice a1 m.ids.length c1) (.slice a2 m.bl.length c2)
  obtain ⟨x0, x1, x2, x3, _⟩ := hat.cells
  have HS := Lib.hid (hs.b.kept k1 (fun _ _ f => f))
  have HB := Lib.hid (bears_any m.k)
  have SH0 := Lib.hid (fun (i : Nat) (hi : i < m.bl.length) (h : 246 < m.bl[i].length) => (show shortL 246 m.bl = false by
    unfold shortL
    rw [← Bool.not_eq_true, List.all_eq_true]
    intro h2
    have := h2 m.bl[i] (List.getElem_mem hi)
    simp at this
    omega))
  have SH1 := Lib.hid (fun (h : ∀ (i : Nat) (hi : i < m.bl.length), m.bl[i].length ≤ 246) => (show shortL 246 m.bl = true by
    unfold shortL
    rw [List.all_eq_true]
    intro x hx
    obtain ⟨i, hi, rfl⟩ := List.getElem_of_mem hx
    simpa using h i hi))
  have hd : chk m = if m.r < 0 then 40 else if 2147483647 < m.r then 40 else if (ldOf m.k).fits m then 0 else 40 := by
    unfold chk okM
    by_cases h1 : m.r < 0
    · simp [h1, show ¬ 0 ≤ m.r by omega]
    · by_cases h2 : 2147483647 < m.r
      · simp [h1, h2, show ¬ m.r ≤ 2147483647 by omega]
      · simp [h1, h2, show 0 ≤ m.r by omega, show m.r ≤ 2147483647 by omega]
  obtain ⟨L, hL⟩ : ∃ L, L = ldOf m.k := ⟨_, rfl⟩
  rw [← hL] at HB hd
  have HD := Lib.hid hd
  have K1 := Lib.hid k1
  have BH := Lib.hid (bears_how L)
  have hlo : -10 ≤ L.bears.2.2 ∧ L.bears.2.2 ≤ 10 := by
    cases L with
    | no => simp [Ld.bears]
    | nm a b => simp only [Ld.bears]; split <;> (try split) <;> simp
    | bl a b => simp only [Ld.bears]; split <;> simp
  obtain ⟨q1, hq1⟩ : ∃ q, q = L.bears.1 := ⟨_, rfl⟩
  obtain ⟨q2, hq2⟩ : ∃ q, q = L.bears.2.1 := ⟨_, rfl⟩
  obtain ⟨q3, hq3⟩ : ∃ q, q = L.bears.2.2 := ⟨_, rfl⟩
  rw [← hq1, ← hq2, ← hq3] at HB
  rw [← hq3] at hlo
  have hb := BH.out
  rw [← hq1, ← hq2, ← hq3] at hb
  replace BH := Lib.hid hb
  clear hs hd k1 hat hL hq1 hq2 hq3 hb
  cases hL : L with
  | no =>
    have h3 : q3 < 0 := BH.out.1.2 hL
    have HE := Lib.hid (show chk m = 40 by rw [HD.out, hL]; unfold Ld.fits; split <;> (try split) <;> rfl)
    clear hL
    go_enter Try.func11, Try.ntmps11
    unfold msV
    go_wp2_with fail
    refine (HB.out _).mono ?_
    rintro e w2 ⟨rfl, rfl⟩
    go_wp2_with fail
    go_ret
    exact ⟨by rw [HE.out]; rfl, K1.out⟩
  | nm a b =>
    obtain ⟨g1, g2, g3, g4⟩ := BH.out.2.1 a b hL
    have g5 : ¬ q3 < 0 := by omega
    have g6 : ¬ 3 ≤ q3 := by omega
    by_cases h1 : m.r < 0
    · have HE := Lib.hid (show chk m = 40 by rw [HD.out, if_pos h1])
      clear hL
      go_enter Try.func11, Try.ntmps11
      unfold msV
      go_wp2_with fail
      refine (HB.out _).mono ?_
      rintro e w2 ⟨rfl, rfl⟩
      go_wp2_with fail
      go_ret
      exact ⟨by rw [HE.out]; rfl, K1.out⟩
    by_cases h2 : 2147483647 < m.r
    · have HE := Lib.hid (show chk m = 40 by rw [HD.out, if_neg h1, if_pos h2])
      clear hL
      go_enter Try.func11, Try.ntmps11
      unfold msV
      go_wp2_with fail
      refine (HB.out _).mono ?_
      rintro e w2 ⟨rfl, rfl⟩
      go_wp2_with fail
      go_ret
      exact ⟨by rw [HE.out]; rfl, K1.out⟩
    subst g1 g2
    by_cases h4 : (m.ids.length : Int) < (a : Int)
    · have HE := Lib.hid (show chk m = 40 by rw [HD.out, if_neg h1, if_neg h2, hL, if_neg]; unfold Ld.fits; simp only []; rw [decide_eq_false (fun h => by omega)]; simp)
      clear hL
      go_enter Try.func11, Try.ntmps11
      unfold msV
      go_wp2_with fail
      refine (HB.out _).mono ?_
      rintro e w2 ⟨rfl, rfl⟩
      go_wp2_with fail
      go_ret
      exact ⟨by rw [HE.out]; rfl, K1.out⟩
    by_cases h5 : (b : Int) < (m.ids.length : Int)
    · have HE := Lib.hid (show chk m = 40 by rw [HD.out, if_neg h1, if_neg h2, hL, if_neg]; unfold Ld.fits; simp only []; rw [decide_eq_false (fun h => by omega)]; simp)
      clear hL
      go_enter Try.func11, Try.ntmps11
      unfold msV
      go_wp2_with fail
      refine (HB.out _).mono ?_
      rintro e w2 ⟨rfl, rfl⟩
      go_wp2_with fail
      go_ret
      exact ⟨by rw [HE.out]; rfl, K1.out⟩
    by_cases h6 : m.bl.length = 0
    · have HE := Lib.hid (show chk m = 0 by rw [HD.out, if_neg h1, if_neg h2, hL, if_pos]; unfold Ld.fits; simp only []; rw [decide_eq_true (show (a : Int) ≤ (m.ids.length : Int) ∧ (m.ids.length : Int) ≤ (b : Int) by omega), decide_eq_true h6]; rfl)
      have e6 : ((m.bl.length : Int) != 0) = false := by rw [neq_cast' , decide_eq_true h6]; rfl
      have HE0 := Lib.hid (fun (_ : shortL 246 m.bl = false) => (show chk m = 40 from (by simp_all [shortL, List.eq_nil_of_length_eq_zero h6])))
      have HE1 := Lib.hid (fun (_ : shortL 246 m.bl = true) => HE.out)
      clear hL h6
      go_enter Try.func11, Try.ntmps11
      unfold msV
      go_wp2_with fail
      refine (HB.out _).mono ?_
      rintro e w2 ⟨rfl, rfl⟩
      go_wp2_with fail
      go_loopw [8] (fun i wr => ∃ k : Nat, k ≤ m.bl.length ∧ i = .int .i64 k ∧ (w.alloc (.cells #[.int .i64 m.k, .int .i64 m.r, .slice a1 m.ids.length c1, .slice a2 m.bl.length c2] 25)) = wr ∧ Hid (∀ (j : Nat) (hj : j < m.bl.length), j < k → m.bl[j].length ≤ 246)) (fun i _ => m.bl.length - (intOf i).toNat)
      case atStart => exact ⟨0, by omega, rfl, rfl, Lib.hid (fun j _ h => by omega)⟩
      case round =>
        obtain ⟨k, hk, rfl, rfl, hsm⟩ := hrel
        by_cases hlt : k < m.bl.length
        · obtain ⟨b', off, u, rfl, hc, hsu, hlc, hcm, _⟩ := HS.out.at hlt
          obtain ⟨ax, cx, rfl⟩ := sees_form hsu
          have hcm' : c2 ≤ 9223372036854775807 := hcm
          by_cases h3k : 246 < m.bl[k].length
          · have h3k' : (246 : Int) < m.bl[k].length := by omega
            have HZ := Lib.hid (HE0.out (SH0.out k hlt h3k))
            clear hsu h3k
            go_wp2_with fail
            go_ret
            exact ⟨by rw [HZ.out]; rfl, K1.out⟩
          · have h3k' : ¬ (246 : Int) < m.bl[k].length := by omega
            have HSM := Lib.hid (show m.bl[k].length ≤ 246 by omega)
            clear hsu h3k
            go_wp2_with fail
            go_roundw
            case rel => exact ⟨k + 1, by omega, by go_num, trivial, Lib.hid (fun j hj h => by
              rcases Nat.lt_or_ge j k with h' | h'
              · exact hsm.out j hj h'
              · obtain rfl : j = k := by omega
                exact HSM.out)⟩
            case measure => simp [intOf]; omega
        · obtain rfl : k = m.bl.length := by omega
          have HZ := Lib.hid (HE1.out (SH1.out (fun i hi => hsm.out i hi hi)))
          clear hsm
          go_wp2_with fail
          go_ret
          exact ⟨by rw [HZ.out]; rfl, K1.out⟩
    · have HE := Lib.hid (show chk m = 40 by rw [HD.out, if_neg h1, if_neg h2, hL, if_neg]; unfold Ld.fits; simp only []; rw [decide_eq_false h6]; simp)
      have e6 : ((m.bl.length : Int) != 0) = true := by rw [neq_cast', decide_eq_false h6]; rfl
      clear hL
      go_enter Try.func11, Try.ntmps11
      unfold msV
      go_wp2_with fail
      refine (HB.out _).mono ?_
      rintro e w2 ⟨rfl, rfl⟩
      go_wp2_with fail
      go_ret
      exact ⟨by rw [HE.out]; rfl, K1.out⟩
  | bl a b =>
    obtain ⟨g1, g2, g3⟩ := BH.out.2.2 a b hL
    have g5 : ¬ q3 < 0 := by omega
    by_cases h1 : m.r < 0
    · have HE := Lib.hid (show chk m = 40 by rw [HD.out, if_pos h1])
      clear hL
      go_enter Try.func11, Try.ntmps11
      unfold msV
      go_wp2_with fail
      refine (HB.out _).mono ?_
      rintro e w2 ⟨rfl, rfl⟩
      go_wp2_with fail
      go_ret
      exact ⟨by rw [HE.out]; rfl, K1.out⟩
    by_cases h2 : 2147483647 < m.r
    · have HE := Lib.hid (show chk m = 40 by rw [HD.out, if_neg h1, if_pos h2])
      clear hL
      go_enter Try.func11, Try.ntmps11
      unfold msV
      go_wp2_with fail
      refine (HB.out _).mono ?_
      rintro e w2 ⟨rfl, rfl⟩
      go_wp2_with fail
      go_ret
      exact ⟨by rw [HE.out]; rfl, K1.out⟩
    subst g1 g2
    by_cases h4 : (m.bl.length : Int) < (a : Int)
    · have HE := Lib.hid (show chk m = 40 by rw [HD.out, if_neg h1, if_neg h2, hL, if_neg]; unfold Ld.fits; simp only []; rw [decide_eq_false (fun h => by omega)]; simp)
      clear hL
      go_enter Try.func11, Try.ntmps11
      unfold msV
      go_wp2_with fail
      refine (HB.out _).mono ?_
      rintro e w2 ⟨rfl, rfl⟩
      go_wp2_with fail
      go_ret
      exact ⟨by rw [HE.out]; rfl, K1.out⟩
    by_cases h5 : (b : Int) < (m.bl.length : Int)
    · have HE := Lib.hid (show chk m = 40 by rw [HD.out, if_neg h1, if_neg h2, hL, if_neg]; unfold Ld.fits; simp only []; rw [decide_eq_false (fun h => by omega)]; simp)
      clear hL
      go_enter Try.func11, Try.ntmps11
      unfold msV
      go_wp2_with fail
      refine (HB.out _).mono ?_
      rintro e w2 ⟨rfl, rfl⟩
      go_wp2_with fail
      go_ret
      exact ⟨by rw [HE.out]; rfl, K1.out⟩
    by_cases h6 : m.ids.length = 0
    · have hcc : chk m = if shortL 246 m.bl then 0 else 40 := by
        rw [HD.out, if_neg h1, if_neg h2, hL]
        have hh : (a : Int) ≤ (m.bl.length : Int) ∧ (m.bl.length : Int) ≤ (b : Int) := by omega
        simp [Ld.fits, hh, h6]
      have e6 : ((m.ids.length : Int) != 0) = false := by rw [neq_cast', decide_eq_true h6]; rfl
      have HE0 := Lib.hid (fun (h : shortL 246 m.bl = false) => (show chk m = 40 by rw [hcc, h]; rfl))
      have HE1 := Lib.hid (fun (h : shortL 246 m.bl = true) => (show chk m = 0 by rw [hcc, h]; rfl))
      clear hL hcc h6
      go_enter Try.func11, Try.ntmps11
      unfold msV
      go_wp2_with fail
      refine (HB.out _).mono ?_
      rintro e w2 ⟨rfl, rfl⟩
      go_wp2_with fail
      go_loopw [8] (fun i wr => ∃ k : Nat, k ≤ m.bl.length ∧ i = .int .i64 k ∧ (w.alloc (.cells #[.int .i64 m.k, .int .i64 m.r, .slice a1 m.ids.length c1, .slice a2 m.bl.length c2] 25)) = wr ∧ Hid (∀ (j : Nat) (hj : j < m.bl.length), j < k → m.bl[j].length ≤ 246)) (fun i _ => m.bl.length - (intOf i).toNat)
      case atStart => exact ⟨0, by omega, rfl, rfl, Lib.hid (fun j _ h => by omega)⟩
      case round =>
        obtain ⟨k, hk, rfl, rfl, hsm⟩ := hrel
        by_cases hlt : k < m.bl.length
        · obtain ⟨b', off, u, rfl, hc, hsu, hlc, hcm, _⟩ := HS.out.at hlt
          obtain ⟨ax, cx, rfl⟩ := sees_form hsu
          have hcm' : c2 ≤ 9223372036854775807 := hcm
          by_cases h3k : 246 < m.bl[k].length
          · have h3k' : (246 : Int) < m.bl[k].length := by omega
            have HZ := Lib.hid (HE0.out (SH0.out k hlt h3k))
            clear hsu h3k
            go_wp2_with fail
            go_ret
            exact ⟨by rw [HZ.out]; rfl, K1.out⟩
          · have h3k' : ¬ (246 : Int) < m.bl[k].length := by omega
            have HSM := Lib.hid (show m.bl[k].length ≤ 246 by omega)
            clear hsu h3k
            go_wp2_with fail
            go_roundw
            case rel => exact ⟨k + 1, by omega, by go_num, trivial, Lib.hid (fun j hj h => by
              rcases Nat.lt_or_ge j k with h' | h'
              · exact hsm.out j hj h'
              · obtain rfl : j = k := by omega
                exact HSM.out)⟩
            case measure => simp [intOf]; omega
        · obtain rfl : k = m.bl.length := by omega
          have HZ := Lib.hid (HE1.out (SH1.out (fun i hi => hsm.out i hi hi)))
          clear hsm
          go_wp2_with fail
          go_ret
          exact ⟨by rw [HZ.out]; rfl, K1.out⟩
    · have HE := Lib.hid (show chk m = 40 by rw [HD.out, if_neg h1, if_neg h2, hL, if_neg]; unfold Ld.fits; simp only []; rw [decide_eq_false h6]; simp)
      have e6 : ((m.ids.length : Int) != 0) = true := by rw [neq_cast', decide_eq_false h6]; rfl
      clear hL
      go_enter Try.func11, Try.ntmps11
      unfold msV
      go_wp2_with fail
      refine (HB.out _).mono ?_
      rintro e w2 ⟨rfl, rfl⟩
      go_wp2_with fail
      go_ret
      exact ⟨by rw [HE.out]; rfl, K1.out⟩
end Go.Proofs.Ytleapcbkkggecaa
