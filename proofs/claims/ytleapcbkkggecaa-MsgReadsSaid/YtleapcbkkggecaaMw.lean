/-
  Messages: their bytes on lists; contracts of the program's Bytes and Size.
-/
import Derived.Test.YtleapcbkkggecaaMp
import Derived.Deep.DeepCutAuto
namespace Go.Proofs.Ytleapcbkkggecaa
open Go.ChangeShapes Go.WideShapes Go.ChangeAt Go.RowKit
variable {A : Nat → Prop}

/-- what stands behind a message's head, row by row -/
def Ms.rows (m : Ms) : List (List Int) := match ldOf m.k with
  | .no => []
  | .nm a b => cntRow a b m.ids.length ++ m.ids
  | .bl a b => cntRow a b m.bl.length ++ m.bl.map rowB
def form (m : Ms) : List Int := be 1 m.k ++ be 4 m.r ++ m.rows.flatten
def msBytes (m : Ms) : List Int := if okM m then form m else []

theorem cntRow_len (a b n : Nat) : (cntRow a b n).flatten.length ≤ 4 := by unfold cntRow; split <;> simp [be_length]
theorem flat_len {xs : List (List Int)} {c : Nat} (h : ∀ x ∈ xs, x.length ≤ c) : xs.flatten.length ≤ xs.length * c := by
  induction xs with
  | nil => simp
  | cons x r ih =>
    have h1 := h x (List.mem_cons_self ..)
    have h2 := ih (fun y hy => h y (List.mem_cons_of_mem _ hy))
    rw [List.flatten_cons, List.length_append, List.length_cons, Nat.add_mul]
    omega
theorem short_mem {n : Nat} {bl : List (List Int)} (h : shortL n bl = true) : ∀ x ∈ bl, x.length ≤ n := fun x hx => by
  have := List.all_eq_true.1 h x hx
  simpa using this
theorem ldOf_bd (k : Int) : (∀ a b, ldOf k = .nm a b → a ≤ b ∧ b ≤ 32) ∧ (∀ a b, ldOf k = .bl a b → a ≤ b ∧ b ≤ 16) := by
  rcases kinds k with rfl | rfl | rfl | rfl | rfl | rfl | rfl | rfl | rfl | rfl | rfl | h
  all_goals (first | rw [ld_no h] | skip)
  all_goals
    constructor
    all_goals (intro a b h; first | (cases h; omega) | (cases h))
theorem okM_parts {m : Ms} (h : okM m = true) : 0 ≤ m.r ∧ m.r ≤ 2147483647 ∧ (ldOf m.k).fits m = true := by
  unfold okM at h
  simp only [Bool.and_eq_true, decide_eq_true_eq] at h
  exact ⟨h.1.1, h.1.2, h.2⟩
theorem kind_bd {k : Int} (h : ldOf k ≠ .no) : 1 ≤ k ∧ k ≤ 11 := by
  rcases kinds k with rfl | rfl | rfl | rfl | rfl | rfl | rfl | rfl | rfl | rfl | rfl | h'
  all_goals (first | omega | exact absurd (ld_no h') h)
theorem fits_nm {a b : Nat} {m : Ms} (h : (Ld.nm a b).fits m = true) : a ≤ m.ids.length ∧ m.ids.length ≤ b ∧ m.bl = [] := by
  simp only [Ld.fits, Bool.and_eq_true, decide_eq_true_eq] at h
  exact ⟨by omega, by omega, List.eq_nil_of_length_eq_zero h.2⟩
theorem fits_bl {a b : Nat} {m : Ms} (h : (Ld.bl a b).fits m = true) : a ≤ m.bl.length ∧ m.bl.length ≤ b ∧ m.ids = [] ∧ ∀ x ∈ m.bl, x.length ≤ 246 := by
  simp only [Ld.fits, Bool.and_eq_true, decide_eq_true_eq] at h
  exact ⟨by omega, by omega, List.eq_nil_of_length_eq_zero h.1.2, short_mem h.2⟩
theorem rows_len {m : Ms} (hw : m.wf) (h : okM m = true) : m.rows.flatten.length ≤ 4004 := by
  obtain ⟨_, _, hf⟩ := okM_parts h
  have hb := ldOf_bd m.k
  unfold Ms.rows
  cases hl : ldOf m.k with
  | no => simp
  | nm a b =>
    rw [hl] at hf
    obtain ⟨_, h2, _⟩ := fits_nm hf
    obtain ⟨_, h3⟩ := hb.1 a b hl
    have h4 := cntRow_len a b m.ids.length
    have h5 := flat_len (c := 32) (fun x hx => Nat.le_of_eq (hw.idl x hx).1)
    simp only [List.flatten_append, List.length_append]
    omega
  | bl a b =>
    rw [hl] at hf
    obtain ⟨_, h2, _, h6⟩ := fits_bl hf
    obtain ⟨_, h3⟩ := hb.2 a b hl
    have h4 := cntRow_len a b m.bl.length
    have h5 := flat_len (xs := m.bl.map rowB) (c := 250) (fun x hx => by
      obtain ⟨y, hy, rfl⟩ := List.mem_map.1 hx
      have := h6 y hy
      rw [rowB, List.length_append, be_length]
      omega)
    rw [List.length_map] at h5
    simp only [List.flatten_append, List.length_append]
    omega
theorem form_len {m : Ms} (hw : m.wf) (h : okM m = true) : (form m).length ≤ 4009 := by
  have := rows_len hw h
  simp only [form, List.length_append, be_length]
  omega

theorem flat_rng {xs : List (List Int)} (h : ∀ x ∈ xs, Rng x) : Rng xs.flatten := fun y hy => by
  obtain ⟨x, hx, hyx⟩ := List.mem_flatten.1 hy
  exact h x hx y hyx
theorem rows_rng {m : Ms} (hw : m.wf) : Rng m.rows.flatten := by
  apply flat_rng
  unfold Ms.rows
  intro x hx
  have hc : ∀ (a b n : Nat), ∀ y ∈ cntRow a b n, Rng y := fun a b n y hy => by
    unfold cntRow at hy
    split at hy
    · rw [List.mem_singleton.1 hy]; exact be_rng _ _
    · cases hy
  split at hx
  · cases hx
  · rcases List.mem_append.1 hx with h | h
    · exact hc _ _ _ x h
    · exact (hw.idl x h).2
  · rcases List.mem_append.1 hx with h | h
    · exact hc _ _ _ x h
    · obtain ⟨y, hy, rfl⟩ := List.mem_map.1 h
      exact (be_rng _ _).append (hw.blr y hy)
theorem form_rng {m : Ms} (hw : m.wf) : Rng (form m) := ((be_rng _ _).append (be_rng _ _)).append (rows_rng hw)
theorem msBytes_rng {m : Ms} (hw : m.wf) : Rng (msBytes m) := by
  unfold msBytes
  split
  · exact form_rng hw
  · intro x hx; cases hx
theorem OwnB.lower {w : World} {B B' : Nat} {v : Value} {l : List Int} (h : OwnB w B v l) (hB : B' ≤ B) : OwnB w B' v l := by
  rcases h with h | ⟨g, cap, rest, h1, h2, h3⟩
  · exact .inl h
  · exact .inr ⟨g, cap, rest, h1, Nat.le_trans hB h2, h3⟩
/-- the bytes, in new memory, or the error -/
def MsOut (w : World) (m : Ms) (r : Ending) (w' : World) : Prop :=
  ∃ v', r = .returned (.tuple #[v', .int .i64 (chk m)]) ∧ OwnB w' w.heap.size v' (msBytes m) ∧ Kp (fun _ => False) w w'

set_option maxRecDepth 100000 in
set_option maxHeartbeats 1600000 in
theorem mbytes_any {vi vb : Value} {m : Ms} {w : World} (hw : m.wf) (hs : SeesM A w vi vb m) :
    Calls Try.prog 18 #[msV m.k m.r vi vb] w (MsOut w m) := by
  obtain ⟨a1, c1, rfl, hm1⟩ := hs.i.form
  obtain ⟨a2, c2, rfl, hm2⟩ := hs.b.form
  have k1 : Kp (fun _ => False) w (w.alloc (.cells #[.int .i64 m.k, .int .i64 m.r, .slice a1 m.ids.length c1, .slice a2 m.bl.length c2] 25)) := (Kp.refl _ _).alloc _
  have hat := MsAt.new w m.k m.r (.slice a1 m.ids.length c1) (.slice a2 m.bl.length c2)
  obtain ⟨x0, x1, x2, x3, _⟩ := hat.cells
  have hbr := mcheck_any (hs.old k1)
  unfold msV at hbr
  have HB := Lib.hid hbr
  have K1 := Lib.hid k1
  have HA := Lib.hid hat
  have HS := Lib.hid hs
  have HW := Lib.hid hw
  clear hs hbr k1 hat hw
  by_cases hok : okM m = true
  · have e0 : chk m = 0 := by unfold chk; rw [if_pos hok]
    obtain ⟨hr0, hr1, hfit⟩ := okM_parts hok
    have hne : ldOf m.k ≠ .no := fun h => by rw [h] at hfit; cases hfit
    obtain ⟨hk0, hk1⟩ := kind_bd hne
    rw [e0] at HB
    have HE := Lib.hid e0
    have HOK := Lib.hid hok
    have HFIT := Lib.hid hfit
    have HNE := Lib.hid hne
    have hm1' : m.k % 256 = m.k := by omega
    have hm2' : m.r % 4294967296 = m.r := by omega
    clear e0 hok hfit hne
    go_enter Try.func18, Try.ntmps18
    unfold msV
    go_wp2_with fail
    refine HB.out.mono ?_
    rintro e w1 ⟨rfl, k2⟩
    have K2 := Lib.hid (K1.out.trans k2 (fun _ _ f => f))
    have A2 := Lib.hid (HA.out.old k2)
    have HNP := Lib.hid (newP_any 4009 (Nat.le_refl w1.heap.size))
    clear k2
    go_wp2_with fail
    refine HNP.out.mono ?_
    rintro e w2 ⟨rfl, hpk, k3, _⟩
    rw [if_pos (by omega)] at hpk
    have PX2 := Lib.hid (show PX w1 w1.heap.size w1.heap.size 4009 ([], 0) w2 from ⟨⟨_, hpk⟩, k3.mono (fun _ _ f => f.elim), Nat.le_refl _⟩)
    have HV2 := Lib.hid hpk
    have HP2 := Lib.hid (putByte_any m.k (by omega) (by omega) PX2.out.size hpk)
    have hlt := A2.out.lt
    have y0 := (A2.out.kept PX2.out.kp (fun h => by omega)).cells.1
    clear hpk k3
    go_wp2_with fail
    refine HP2.out.mono ?_
    rintro e w3 ⟨rfl, hq⟩
    have PX3 := Lib.hid (PX2.out.step HV2.out hq)
    clear hq
    have y1 := (A2.out.kept PX3.out.kp (fun h => by omega)).cells.2.1
    obtain ⟨v3, hv3⟩ := PX3.out.pk
    have HV3 := Lib.hid hv3
    have HP3 := Lib.hid (putInt_any m.r (by omega) (by omega) PX3.out.size hv3)
    clear hv3
    go_wp2_with fail
    refine HP3.out.mono ?_
    rintro e w4 ⟨rfl, hq⟩
    have PX4 := Lib.hid (PX3.out.step HV3.out hq)
    clear hq
    have y2 := (A2.out.kept PX4.out.kp (fun h => by omega)).cells.1
    have q3 := as_nm_nm
    have q5 := as_bl_nm
    have q7 := as_bl_one
    have HLD := Lib.hid (loadOf_any m.k)
    go_wp2_with fail
    refine (HLD.out _).mono ?_
    rintro e w5 ⟨rfl, rfl⟩
    have HROWS := Lib.hid (show m.rows = (match ldOf m.k with
      | .no => []
      | .nm a b => cntRow a b m.ids.length ++ m.ids
      | .bl a b => cntRow a b m.bl.length ++ m.bl.map rowB) from rfl)
    have hbd := ldOf_bd m.k
    have HLEN := Lib.hid (rows_len HW.out HOK.out)
    have hlt4 : w1.heap.size ≤ w4.heap.size := PX4.out.kp.size
    have HFIN := Lib.hid (fun (w' : World) (h : PX w1 w1.heap.size w1.heap.size 4009 (putL 4009 (putS 4009 (putS 4009 [] 0 (be 1 m.k)).1 (putS 4009 [] 0 (be 1 m.k)).2 (be 4 m.r)) m.rows) w') =>
      (show PX w1 w1.heap.size w1.heap.size 4009 (form m, 0) w' by
        have e1 : putS 4009 [] 0 (be 1 m.k) = (be 1 m.k, 0) := by unfold putS; rw [if_pos rfl, if_pos (by rw [be_length]; simp), List.nil_append]
        have e2 : putS 4009 (be 1 m.k) 0 (be 4 m.r) = (be 1 m.k ++ be 4 m.r, 0) := by unfold putS; rw [if_pos rfl, if_pos (by rw [be_length, be_length]; omega)]
        rw [e1] at h
        simp only [] at h
        rw [e2, putL_fit _ _ _ (by have := HLEN.out; rw [List.length_append, be_length, be_length]; omega)] at h
        exact h))
    obtain ⟨s4, hs4⟩ : ∃ s4, s4 = putS 4009 (putS 4009 [] 0 (be 1 m.k)).1 (putS 4009 [] 0 (be 1 m.k)).2 (be 4 m.r) := ⟨_, rfl⟩
    have hx4 := PX4.out
    rw [← hs4] at hx4 HFIN
    have PX5 := Lib.hid hx4
    clear hs4 hx4
    have HMI := Lib.hid (HS.out.i.mono (A' := fun g => g < w1.heap.size) (fun g hg _ => Nat.lt_of_lt_of_le hg K2.out.size) (fun x hx => (HW.out.idl x hx).1))
    have HMB := Lib.hid (HS.out.b.mono (A' := fun g => g < w1.heap.size) (fun g hg _ => Nat.lt_of_lt_of_le hg K2.out.size))
    cases hl : ldOf m.k with
    | no => exact absurd hl HNE.out
    | nm a b =>
      have hfit := HFIT.out
      rw [hl] at hfit hbd
      obtain ⟨_, hn2, _⟩ := fits_nm hfit
      obtain ⟨_, hn3⟩ := hbd.1 a b rfl
      have hrw := HROWS.out
      rw [hl] at hrw
      have ka : Kp (fun _ => False) w4 (w4.alloc (.cells #[.int .i64 a, .int .i64 b] 59)) := (Kp.refl _ _).alloc _
      have PX6 := Lib.hid (PX5.out.old ka)
      have y3 := (A2.out.kept PX6.out.kp (fun h => by omega)).cells.2.2.1
      have HPN := Lib.hid (putNames_any a b (fun x hx => (HW.out.idl x hx).1) (by omega) PX6.out (HMI.out.kept K2.out (fun _ _ f => f)))
      unfold Ld.V spV
      unfold spV at HPN
      clear hl hfit hbd ka
      go_wp2_with fail
      refine HPN.out.mono ?_
      rintro e w6 ⟨rfl, hx⟩
      have hx' := HFIN.out w6 (by rw [hrw]; exact hx)
      have HK6 := Lib.hid ((K2.out.trans hx'.kp (fun x hx hb => by have := K2.out.size; omega) : Kp (fun _ => False) w w6))
      have HSZ := Lib.hid (Nat.le_trans K2.out.size (hx'.size))
      obtain ⟨v6, hv6⟩ := hx'.pk
      have HOUT := Lib.hid (pout_any hv6)
      clear hx hx' hv6
      go_wp2_with fail
      refine HOUT.out.mono ?_
      rintro e w7 ⟨v', rfl, own, k7⟩
      rw [if_pos rfl] at own
      have OWN := Lib.hid own
      have K7 := Lib.hid (HK6.out.trans k7 (fun _ _ f => f))
      clear own k7
      go_wp2_with fail
      go_ret2
      exact ⟨v', by rw [HE.out]; rfl, by unfold msBytes; rw [if_pos HOK.out]; exact OWN.out.lower (by have := HSZ.out; omega), K7.out⟩
    | bl a b =>
      have hfit := HFIT.out
      rw [hl] at hfit hbd
      obtain ⟨_, hn2, _, hn4⟩ := fits_bl hfit
      obtain ⟨_, hn3⟩ := hbd.2 a b rfl
      have hrw := HROWS.out
      rw [hl] at hrw
      have ka : Kp (fun _ => False) w4 (w4.alloc (.cells #[.int .i64 0, .int .i64 0] 59)) := (Kp.refl _ _).alloc _
      have PX6 := Lib.hid (PX5.out.old ka)
      have y3 := (A2.out.kept PX6.out.kp (fun h => by omega)).cells.2.2.2.1
      have HPN := Lib.hid (putRows_any a b hn4 (by omega) (PX6.out.old ((Kp.refl _ _).drew)) (HMB.out.kept K2.out (fun _ _ f => f)))
      unfold Ld.V spV
      unfold spV at HPN
      clear hl hfit hbd ka
      go_upto_region 11 with fail
      go_cut [] from 39 to 44 (fun wc => PX w1 w1.heap.size w1.heap.size 4009 (putL 4009 s4 (cntRow a b m.bl.length ++ m.bl.map rowB)) wc)
      case first =>
        go_region_with (first
          | (go_at_call 40; refine HPN.out.mono ?_; rintro e w6 ⟨rfl, hx⟩))
        all_goals
          go_wp2_with fail
          go_meet
          case rel => exact hx
      case rest =>
      have hx := hcut
      clear hcut
      have hx' := HFIN.out wc (by rw [hrw]; exact hx)
      have HK6 := Lib.hid ((K2.out.trans hx'.kp (fun x hx hb => by have := K2.out.size; omega) : Kp (fun _ => False) w wc))
      have HSZ := Lib.hid (Nat.le_trans K2.out.size (hx'.size))
      obtain ⟨v6, hv6⟩ := hx'.pk
      have HOUT := Lib.hid (pout_any hv6)
      clear hx hx' hv6
      go_wp2_with fail
      refine HOUT.out.mono ?_
      rintro e w7 ⟨v', rfl, own, k7⟩
      rw [if_pos rfl] at own
      have OWN := Lib.hid own
      have K7 := Lib.hid (HK6.out.trans k7 (fun _ _ f => f))
      clear own k7
      go_wp2_with fail
      go_ret2
      exact ⟨v', by rw [HE.out]; rfl, by unfold msBytes; rw [if_pos HOK.out]; exact OWN.out.lower (by have := HSZ.out; omega), K7.out⟩
  · have e0 : chk m = 40 := by unfold chk; rw [if_neg hok]
    have e1 : msBytes m = [] := by unfold msBytes; rw [if_neg hok]
    rw [e0] at HB
    have HE := Lib.hid e0
    have HE1 := Lib.hid e1
    clear e0 e1 hok
    go_enter Try.func18, Try.ntmps18
    unfold msV
    go_wp2_with fail
    refine HB.out.mono ?_
    rintro e w1 ⟨rfl, k2⟩
    have K2 := Lib.hid (K1.out.trans k2 (fun _ _ f => f))
    clear k2
    go_wp2_with fail
    go_ret2
    exact ⟨.slice none 0 0, by rw [HE.out]; rfl, by rw [HE1.out]; exact .inl ⟨rfl, rfl⟩, K2.out⟩

set_option maxHeartbeats 1000000 in
theorem msize_any {vi vb : Value} {m : Ms} {w : World} (hw : m.wf) (hs : SeesM A w vi vb m) :
    Calls Try.prog 14 #[msV m.k m.r vi vb] w fun e w' => e = .returned (.int .i64 ((msBytes m).length : Int)) ∧ Kp (fun _ => False) w w' := by
  obtain ⟨a1, c1, rfl, hm1⟩ := hs.i.form
  obtain ⟨a2, c2, rfl, hm2⟩ := hs.b.form
  have k1 : Kp (fun _ => False) w (w.alloc (.cells #[.int .i64 m.k, .int .i64 m.r, .slice a1 m.ids.length c1, .slice a2 m.bl.length c2] 25)) := (Kp.refl _ _).alloc _
  have hat := MsAt.new w m.k m.r (.slice a1 m.ids.length c1) (.slice a2 m.bl.length c2)
  obtain ⟨x0, x1, x2, x3, _⟩ := hat.cells
  have hbr := mbytes_any hw (hs.old k1)
  unfold msV at hbr
  have HB := Lib.hid hbr
  have K1 := Lib.hid k1
  clear hs hbr k1 hat
  go_enter Try.func14, Try.ntmps14
  unfold msV
  go_wp2_with fail
  refine HB.out.mono ?_
  rintro e w1 ⟨v', rfl, own, k2⟩
  have K2 := Lib.hid (K1.out.trans k2 (fun _ _ f => f))
  obtain ⟨a3, c3, rfl⟩ := sees_form own.sees
  clear own k2
  go_wp2_with fail
  go_ret
  exact ⟨rfl, K2.out⟩
end Go.Proofs.Ytleapcbkkggecaa
