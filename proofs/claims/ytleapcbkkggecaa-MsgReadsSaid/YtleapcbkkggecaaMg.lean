/-
  Messages: contracts of the laws' own few and begun.
-/
import Derived.Test.YtleapcbkkggecaaMx
import Derived.Test.YtleapcbkkggecaaMt
namespace Go.Proofs.Ytleapcbkkggecaa
open Go.ChangeShapes Go.WideShapes Go.ChangeAt Go.RowKit
variable {A : Nat → Prop}

def fewM (m : Ms) : Bool := decide (m.ids.length ≤ 100) && decide (m.bl.length ≤ 40) && shortL 600 m.bl
set_option maxRecDepth 100000 in
set_option maxHeartbeats 1600000 in
theorem few_any {vi vb : Value} {m : Ms} {w : World} (hs : SeesM A w vi vb m) :
    Calls Try.prog 6 #[msV m.k m.r vi vb] w fun e w' => e = .returned (.bool (fewM m)) ∧ Kp (fun _ => False) w w' := by
  obtain ⟨a1, c1, rfl, hm1⟩ := hs.i.form
  obtain ⟨a2, c2, rfl, hm2⟩ := hs.b.form
  have k1 : Kp (fun _ => False) w (w.alloc (.cells #[.int .i64 m.k, .int .i64 m.r, .slice a1 m.ids.length c1, .slice a2 m.bl.length c2] 25)) := (Kp.refl _ _).alloc _
  have hat := MsAt.new w m.k m.r (.slice a1 m.ids.length c1) (.slice a2 m.bl.length c2)
  obtain ⟨x0, x1, x2, x3, _⟩ := hat.cells
  have HS := Lib.hid (hs.b.kept k1 (fun _ _ f => f))
  have K1 := Lib.hid k1
  have HF := Lib.hid (show fewM m = (decide (m.ids.length ≤ 100) && decide (m.bl.length ≤ 40) && shortL 600 m.bl) from rfl)
  have SH0 := Lib.hid (fun (i : Nat) (hi : i < m.bl.length) (h : 600 < m.bl[i].length) => (show shortL 600 m.bl = false by
    unfold shortL
    rw [← Bool.not_eq_true, List.all_eq_true]
    intro h2
    have := h2 m.bl[i] (List.getElem_mem hi)
    simp at this
    omega))
  have SH1 := Lib.hid (fun (h : ∀ (i : Nat) (hi : i < m.bl.length), m.bl[i].length ≤ 600) => (show shortL 600 m.bl = true by
    unfold shortL
    rw [List.all_eq_true]
    intro x hx
    obtain ⟨i, hi, rfl⟩ := List.getElem_of_mem hx
    simpa using h i hi))
  clear hs k1 hat
  by_cases h1 : 100 < m.ids.length
  · have h1' : (100 : Int) < m.ids.length := by omega
    have HE := Lib.hid (show fewM m = false by rw [HF.out, decide_eq_false (by omega)]; rfl)
    clear h1
    go_enter Try.func6, Try.ntmps6
    unfold msV
    go_wp2_with fail
    go_ret
    exact ⟨by rw [HE.out]; rfl, K1.out⟩
  by_cases h2 : 40 < m.bl.length
  · have h1' : ¬ (100 : Int) < m.ids.length := by omega
    have h2' : (40 : Int) < m.bl.length := by omega
    have HE := Lib.hid (show fewM m = false by rw [HF.out, decide_eq_false (show ¬ m.bl.length ≤ 40 by omega)]; simp)
    clear h1 h2
    go_enter Try.func6, Try.ntmps6
    unfold msV
    go_wp2_with fail
    go_ret
    exact ⟨by rw [HE.out]; rfl, K1.out⟩
  have h1' : ¬ (100 : Int) < m.ids.length := by omega
  have h2' : ¬ (40 : Int) < m.bl.length := by omega
  have HE := Lib.hid (show fewM m = shortL 600 m.bl by rw [HF.out, decide_eq_true (show m.ids.length ≤ 100 by omega), decide_eq_true (show m.bl.length ≤ 40 by omega)]; rfl)
  clear h1 h2
  obtain ⟨wc, hwc⟩ : ∃ wc, wc = (w.alloc (.cells #[.int .i64 m.k, .int .i64 m.r, .slice a1 m.ids.length c1, .slice a2 m.bl.length c2] 25)) := ⟨_, rfl⟩
  go_enter Try.func6, Try.ntmps6
  unfold msV
  go_wp2_with fail
  rw [← hwc] at HS K1 ⊢
  clear x0 x1 x2 x3 hwc
  go_loopw [18] (fun i wr => ∃ k : Nat, k ≤ m.bl.length ∧ i = .int .i64 k ∧ wc = wr ∧ Hid (∀ (j : Nat) (hj : j < m.bl.length), j < k → m.bl[j].length ≤ 600)) (fun i _ => m.bl.length - (intOf i).toNat)
  case atStart => exact ⟨0, by omega, rfl, rfl, Lib.hid (fun j _ h => by omega)⟩
  case round =>
    obtain ⟨k, hk, rfl, rfl, hsm⟩ := hrel
    by_cases hlt : k < m.bl.length
    · obtain ⟨b, off, u, rfl, hc, hsu, hlc, hcm, _⟩ := HS.out.at hlt
      obtain ⟨ax, cx, rfl⟩ := sees_form hsu
      have hcm' : c2 ≤ 9223372036854775807 := hcm
      by_cases h3k : 600 < m.bl[k].length
      · have h3k' : (600 : Int) < m.bl[k].length := by omega
        have HZ := Lib.hid (SH0.out k hlt h3k)
        clear hsu h3k
        go_wp2_with fail
        go_ret
        exact ⟨by rw [HE.out, HZ.out]; rfl, K1.out⟩
      · have h3k' : ¬ (600 : Int) < m.bl[k].length := by omega
        have HSM := Lib.hid (show m.bl[k].length ≤ 600 by omega)
        clear hsu h3k
        go_wp2_with fail
        go_roundw
        case rel => exact ⟨k + 1, by omega, by go_num, trivial, Lib.hid (fun j hj h => by
          rcases Nat.lt_or_ge j k with h' | h'
          · exact hsm.out j hj h'
          · obtain rfl : j = k := by omega
            exact HSM.out)⟩
        case measure => simp [intOf]; omega
    · obtain rfl : k = m.bl.length := by omega
      have HZ := Lib.hid (SH1.out (fun i hi => hsm.out i hi hi))
      clear hsm
      go_wp2_with fail
      go_ret
      exact ⟨by rw [HE.out, HZ.out]; rfl, K1.out⟩

/-- the laws' first message -/
def gM : Ms := ⟨8, 258, [], [[9]]⟩
theorem gM_rng : ∀ x ∈ gM.bl, Rng x := by
  intro x hx
  have hx' : x = [9] := by simpa [gM] using hx
  subst hx'
  intro y hy
  have hy' : y = 9 := by simpa using hy
  omega
theorem gM_wf : gM.wf := ⟨by decide, by decide, by decide, by decide, (fun x hx => by cases hx), gM_rng⟩
theorem gM_ok : okM gM = true := by decide
theorem gM_form : form gM = [8, 0, 0, 1, 2, 0, 0, 0, 1, 9] := by decide
theorem gM_sees (w : World) : SeesM (fun _ => True) (((w.alloc (.cells #[.int .u8 9] 5)).alloc (.cells #[.slice (some ⟨w.heap.size, 0, none⟩) 1 1] 29)).alloc (.cells #[.int .i64 8, .int .i64 258, .slice none 0 0, .slice (some ⟨w.heap.size + 1, 0, none⟩) 1 1] 25))
    (.slice none 0 0) (.slice (some ⟨w.heap.size + 1, 0, none⟩) 1 1) gM := by
  have h1 := lit_sees w [9] (by decide)
  have k1 : Kp (fun _ => False) (w.alloc (.cells #[.int .u8 9] 5)) (((w.alloc (.cells #[.int .u8 9] 5)).alloc (.cells #[.slice (some ⟨w.heap.size, 0, none⟩) 1 1] 29)).alloc (.cells #[.int .i64 8, .int .i64 258, .slice none 0 0, .slice (some ⟨w.heap.size + 1, 0, none⟩) 1 1] 25)) := ((Kp.refl _ _).alloc _).alloc _
  have h2 := old_blk (new_blk (w.alloc (.cells #[.int .u8 9] 5)) (.cells #[.slice (some ⟨w.heap.size, 0, none⟩) 1 1] 29)) (.cells #[.int .i64 8, .int .i64 258, .slice none 0 0, .slice (some ⟨w.heap.size + 1, 0, none⟩) 1 1] 25)
  rw [World.size_alloc] at h2
  refine ⟨.inl ⟨rfl, rfl⟩, .inr ⟨⟨w.heap.size + 1, 0, none⟩, 1, rfl, Nat.le_refl _, by unfold maxLen; omega, fun _ => trivial, fun i x hi => ?_⟩⟩
  match i, hi with
  | 0, hi =>
    cases hi
    refine ⟨.slice (some ⟨w.heap.size, 0, none⟩) 1 1, ?_, h1.kept k1 (fun _ _ _ f => f), fun _ _ _ => trivial⟩
    rw [Addr.add_lit, cell_blk h2]
    rfl
set_option maxRecDepth 100000 in
set_option maxHeartbeats 1600000 in
theorem begun_any (w : World) : Calls Try.prog 5 #[] w fun e w' => e = .returned (.bool true) ∧ Kp (fun _ => False) w w' := by
  have hg := gM_sees w
  have k1 : Kp (fun _ => False) w (((w.alloc (.cells #[.int .u8 9] 5)).alloc (.cells #[.slice (some ⟨w.heap.size, 0, none⟩) 1 1] 29)).alloc (.cells #[.int .i64 8, .int .i64 258, .slice none 0 0, .slice (some ⟨w.heap.size + 1, 0, none⟩) 1 1] 25)) := (((Kp.refl _ _).alloc _).alloc _).alloc _
  have hat := MsAt.new ((w.alloc (.cells #[.int .u8 9] 5)).alloc (.cells #[.slice (some ⟨w.heap.size, 0, none⟩) 1 1] 29)) 8 258 (.slice none 0 0) (.slice (some ⟨w.heap.size + 1, 0, none⟩) 1 1)
  rw [World.size_alloc, World.size_alloc] at hat
  obtain ⟨x0, x1, x2, x3, _⟩ := hat.cells
  have hb := mbytes_any gM_wf hg
  unfold MsOut msBytes at hb
  rw [if_pos gM_ok, show chk gM = 0 by decide, gM_form] at hb
  unfold msV at hb
  have HB := Lib.hid hb
  have HG := Lib.hid hg
  have K1 := Lib.hid k1
  have HAT := Lib.hid hat
  clear hg k1 hat hb
  go_enter Try.func5, Try.ntmps5
  go_wp2_with fail
  refine HB.out.mono ?_
  rintro e w1 ⟨v1, rfl, own, k2⟩
  obtain ⟨a1, c1, rfl⟩ := sees_form own.sees
  have hp := mparse_any (b := [8, 0, 0, 1, 2, 0, 0, 0, 1, 9]) (by intro x hx; simp at hx; omega) (by simp) own.sees
  unfold MsIn at hp
  rw [prs_of_good gM_wf gM_ok gM_form] at hp
  have HP := Lib.hid hp
  have OW := Lib.hid own.sees
  have K2 := Lib.hid (K1.out.trans k2 (fun _ _ f => f))
  have A2 := Lib.hid (HAT.out.old k2)
  have G2 := Lib.hid (HG.out.old k2)
  clear own k2 hp
  go_wp2_with fail
  refine HP.out.mono ?_
  rintro e w2 ⟨vi, vb, rfl, hsm, k3⟩
  obtain ⟨a3, c3, rfl, _⟩ := hsm.i.form
  obtain ⟨a4, c4, rfl, _⟩ := hsm.b.form
  have M3 := Lib.hid hsm
  have O3 := Lib.hid (OW.out.kept k3 (fun _ _ _ f => f))
  have K3 := Lib.hid (K2.out.trans k3 (fun _ _ f => f))
  have A3 := Lib.hid (A2.out.old k3)
  have G3 := Lib.hid (G2.out.old k3)
  clear hsm k3
  have hk4 : Kp (fun _ => False) w2 (w2.alloc (.cells #[.int .i64 gM.k, .int .i64 gM.r, .slice a3 gM.ids.length c3, .slice a4 gM.bl.length c4] 25)) := (Kp.refl _ _).alloc _
  have hk5 : Kp (fun _ => False) (w2.alloc (.cells #[.int .i64 gM.k, .int .i64 gM.r, .slice a3 gM.ids.length c3, .slice a4 gM.bl.length c4] 25)) ((w2.alloc (.cells #[.int .i64 gM.k, .int .i64 gM.r, .slice a3 gM.ids.length c3, .slice a4 gM.bl.length c4] 25)).alloc (.cells #[.int .u8 8, .int .u8 0, .int .u8 0, .int .u8 1, .int .u8 2, .int .u8 0, .int .u8 0, .int .u8 0, .int .u8 1, .int .u8 9] 5)) := (Kp.refl _ _).alloc _
  have hk45 := hk4.trans hk5 (fun _ _ f => f)
  have hlit := lit_sees (w2.alloc (.cells #[.int .i64 gM.k, .int .i64 gM.r, .slice a3 gM.ids.length c3, .slice a4 gM.bl.length c4] 25)) [8, 0, 0, 1, 2, 0, 0, 0, 1, 9] (by decide)
  rw [World.size_alloc] at hlit
  have heq := equal_any (O3.out.kept hk45 (fun _ _ _ f => f)) hlit (by intro x hx; simp at hx; omega) (by intro x hx; simp at hx; omega)
  rw [decide_eq_true rfl] at heq
  have hsame := rmsame_any (M3.out.old hk45) (G3.out.old hk45) gM_wf gM_wf
  rw [(sameM_iff gM gM).2 rfl] at hsame
  obtain ⟨z0, z1, z2, z3, _⟩ := ((MsAt.new w2 gM.k gM.r (.slice a3 gM.ids.length c3) (.slice a4 gM.bl.length c4)).old hk5).cells
  obtain ⟨u0, u1, u2, u3, _⟩ := (A3.out.old hk45).cells
  have HEQ := Lib.hid heq
  have HSM := Lib.hid hsame
  have K5 := Lib.hid (K3.out.trans hk45 (fun _ _ f => f))
  unfold msV at HSM
  clear hk4 hk5 hk45 hlit heq hsame
  unfold msV
  go_wp2_with fail
  refine HEQ.out.mono ?_
  rintro e w6 ⟨rfl, rfl⟩
  go_wp2_with fail
  refine HSM.out.mono ?_
  rintro e w7 ⟨rfl, k7⟩
  have K7 := Lib.hid (K5.out.trans k7 (fun _ _ f => f))
  clear k7
  go_wp2_with fail
  go_ret
  exact ⟨rfl, K7.out⟩
end Go.Proofs.Ytleapcbkkggecaa
