/-
  Messages: contracts of the program's Check and of the document's.
-/
import Derived.Test.YtleapcbkkggecaaMb
namespace Go.Proofs.Ytleapcbkkggecaa
open Go.ChangeShapes Go.WideShapes Go.ChangeAt Go.RowKit
variable {A : Nat → Prop}

/-- does a message bear what its kind bears -/
def Ld.fits (l : Ld) (m : Ms) : Bool := match l with
  | .no => false
  | .nm a b => decide ((a : Int) ≤ (m.ids.length : Int) ∧ (m.ids.length : Int) ≤ (b : Int)) && decide (m.bl.length = 0)
  | .bl a b => decide ((a : Int) ≤ (m.bl.length : Int) ∧ (m.bl.length : Int) ≤ (b : Int)) && decide (m.ids.length = 0) && shortL 246 m.bl
/-- may a message be -/
def okM (m : Ms) : Bool := decide (0 ≤ m.r) && decide (m.r ≤ 2147483647) && (ldOf m.k).fits m
def chk (m : Ms) : Int := if okM m then 0 else 40

theorem as_no_nm (w : World) : (Instr.typeAssert .nilIface 20 59 true).run Try.prog w = .ok (.tuple #[.agg #[.int .i64 0, .int .i64 0], .bool false]) w := by kernel_rfl
theorem as_no_bl (w : World) : (Instr.typeAssert .nilIface 20 62 true).run Try.prog w = .ok (.tuple #[.agg #[.int .i64 0, .int .i64 0], .bool false]) w := by kernel_rfl
theorem as_nm_nm (a b : Int) (w : World) : (Instr.typeAssert (.iface 59 (.agg #[.int .i64 a, .int .i64 b])) 20 59 true).run Try.prog w = .ok (.tuple #[.agg #[.int .i64 a, .int .i64 b], .bool true]) w := by kernel_rfl
theorem as_nm_bl (a b : Int) (w : World) : (Instr.typeAssert (.iface 59 (.agg #[.int .i64 a, .int .i64 b])) 20 62 true).run Try.prog w = .ok (.tuple #[.agg #[.int .i64 0, .int .i64 0], .bool false]) w := by kernel_rfl
theorem as_bl_nm (a b : Int) (w : World) : (Instr.typeAssert (.iface 62 (.agg #[.int .i64 a, .int .i64 b])) 20 59 true).run Try.prog w = .ok (.tuple #[.agg #[.int .i64 0, .int .i64 0], .bool false]) w := by kernel_rfl
theorem as_bl_bl (a b : Int) (w : World) : (Instr.typeAssert (.iface 62 (.agg #[.int .i64 a, .int .i64 b])) 20 62 true).run Try.prog w = .ok (.tuple #[.agg #[.int .i64 a, .int .i64 b], .bool true]) w := by kernel_rfl
theorem as_bl_one (a b : Int) (w : World) : (Instr.typeAssert (.iface 62 (.agg #[.int .i64 a, .int .i64 b])) 20 62 false).run Try.prog w = .ok (.agg #[.int .i64 a, .int .i64 b]) w := by kernel_rfl

theorem len_eq0 (n : Nat) : ((n : Int) == 0) = decide (n = 0) := by
  by_cases h : n = 0
  · simp [h]
  · simp [h]
set_option maxRecDepth 100000 in
set_option maxHeartbeats 1000000 in
theorem bearsRightly_any {vi vb : Value} {m : Ms} {w : World} (hs : SeesM A w vi vb m) :
    Calls Try.prog 25 #[msV m.k m.r vi vb] w fun e w' => e = .returned (.bool ((ldOf m.k).fits m)) ∧ Kp (fun _ => False) w w' := by
  obtain ⟨a1, c1, rfl, hm1⟩ := hs.i.form
  obtain ⟨a2, c2, rfl, hm2⟩ := hs.b.form
  have k1 : Kp (fun _ => False) w (w.alloc (.cells #[.int .i64 m.k, .int .i64 m.r, .slice a1 m.ids.length c1, .slice a2 m.bl.length c2] 25)) := (Kp.refl _ _).alloc _
  have hat := MsAt.new w m.k m.r (.slice a1 m.ids.length c1) (.slice a2 m.bl.length c2)
  obtain ⟨x0, x1, x2, x3, _⟩ := hat.cells
  have HL := Lib.hid (loadOf_any m.k)
  have q1 := as_no_nm
  have q2 := as_no_bl
  have q3 := as_nm_nm
  have q4 := as_nm_bl
  have q5 := as_bl_nm
  have q6 := as_bl_bl
  have HS := Lib.hid hs.b
  clear hs
  cases hl : ldOf m.k with
  | no =>
    go_enter Try.func25, Try.ntmps25
    unfold msV
    go_wp2_with fail
    refine (HL.out _).mono ?_
    rintro e w1 ⟨rfl, rfl⟩
    rw [hl]
    unfold Ld.V
    go_wp2_with fail
    go_ret
    exact ⟨rfl, (((Kp.refl _ _).alloc _).alloc _).alloc _⟩
  | nm a b =>
    have hh := holds_any a b (m.ids.length : Int)
    have hf : (Ld.nm a b).fits m = (decide ((a : Int) ≤ (m.ids.length : Int) ∧ (m.ids.length : Int) ≤ (b : Int)) && ((m.bl.length : Int) == 0)) := by
      rw [len_eq0]; rfl
    rw [hf]
    obtain ⟨p, hp⟩ : ∃ p, p = decide ((a : Int) ≤ (m.ids.length : Int) ∧ (m.ids.length : Int) ≤ (b : Int)) := ⟨_, rfl⟩
    rw [← hp] at hh ⊢
    have HH := Lib.hid hh
    have K1 := Lib.hid (k1.alloc (.cells #[.int .i64 a, .int .i64 b] 59))
    have M1 := Lib.hid (hat.old ((Kp.refl (fun _ => False) _).alloc (.cells #[.int .i64 a, .int .i64 b] 59)))
    clear hh hp hf k1 hat
    go_enter Try.func25, Try.ntmps25
    unfold msV
    go_wp2_with fail
    refine (HL.out _).mono ?_
    rintro e w1 ⟨rfl, rfl⟩
    rw [hl]
    unfold Ld.V spV
    go_wp2_with fail
    refine (HH.out _).mono ?_
    rintro e w1 ⟨rfl, k2⟩
    have K2 := Lib.hid (K1.out.trans k2 (fun _ _ f => f))
    obtain ⟨_, _, _, y3, _⟩ := (M1.out.old k2).cells
    clear k2
    cases p
    all_goals
      go_wp2_with fail
      go_ret
      exact ⟨rfl, K2.out⟩
  | bl a b =>
    have hh := holds_any a b (m.bl.length : Int)
    have hf : (Ld.bl a b).fits m = (decide ((a : Int) ≤ (m.bl.length : Int) ∧ (m.bl.length : Int) ≤ (b : Int)) && ((m.ids.length : Int) == 0) && shortL 246 m.bl) := by
      rw [len_eq0]; rfl
    rw [hf]
    obtain ⟨p, hp⟩ : ∃ p, p = decide ((a : Int) ≤ (m.bl.length : Int) ∧ (m.bl.length : Int) ≤ (b : Int)) := ⟨_, rfl⟩
    rw [← hp] at hh ⊢
    obtain ⟨q, hq⟩ : ∃ q, q = shortL 246 m.bl := ⟨_, rfl⟩
    have HH := Lib.hid hh
    have K1 := Lib.hid ((k1.alloc (.cells #[.int .i64 0, .int .i64 0] 59)).alloc (.cells #[.int .i64 a, .int .i64 b] 62))
    have M1 := Lib.hid (hat.old (((Kp.refl (fun _ => False) _).alloc (.cells #[.int .i64 0, .int .i64 0] 59)).alloc (.cells #[.int .i64 a, .int .i64 b] 62)))
    have HQ := Lib.hid hq
    rw [← hq]
    clear hh hp hf k1 hat
    go_enter Try.func25, Try.ntmps25
    unfold msV
    go_wp2_with fail
    refine (HL.out _).mono ?_
    rintro e w1 ⟨rfl, rfl⟩
    rw [hl]
    unfold Ld.V spV
    go_wp2_with fail
    refine (HH.out _).mono ?_
    rintro e w1 ⟨rfl, k2⟩
    have K2 := Lib.hid (K1.out.trans k2 (fun _ _ f => f))
    have hm2 := M1.out.old k2
    obtain ⟨_, _, y2, y3, _⟩ := hm2.cells
    clear k2
    cases p
    · go_wp2_with fail
      go_ret
      exact ⟨rfl, K2.out⟩
    · by_cases h0 : m.ids.length = 0
      · have e0 : ((m.ids.length : Int) == 0) = true := by rw [len_eq0, decide_eq_true h0]
        have hn := noneTooLong_any (HS.out.kept K2.out (fun _ _ f => f))
        rw [← HQ.out] at hn
        have HN := Lib.hid hn
        clear hn
        go_wp2_with fail
        refine HN.out.mono ?_
        rintro e w2 ⟨rfl, rfl⟩
        go_wp2_with fail
        go_ret
        exact ⟨by rw [e0, HQ.out]; rfl, K2.out⟩
      · have e0 : ((m.ids.length : Int) == 0) = false := by rw [len_eq0, decide_eq_false h0]
        go_wp2_with fail
        go_ret
        exact ⟨by rw [e0]; rfl, K2.out⟩
end Go.Proofs.Ytleapcbkkggecaa
