/-
  Messages: contracts of the document's four and of its Bytes.
-/
import Derived.Test.YtleapcbkkggecaaMw
namespace Go.Proofs.Ytleapcbkkggecaa
open Go.ChangeShapes Go.WideShapes Go.ChangeAt Go.RowKit
variable {A : Nat → Prop}

/-- a row of bytes of one's own made since W, all else being as it was -/
structure OX (W : World) (B : Nat) (l : List Int) (v : Value) (w : World) : Prop where
  own : OwnB w B v l
  kp : Kp (fun k => B ≤ k) W w
  base : B ≤ W.heap.size
theorem OX.old {W w w' : World} {B : Nat} {l : List Int} {v : Value} (h : OX W B l v w) (k : Kp (fun _ => False) w w') : OX W B l v w' := ⟨h.own.kept k (fun _ _ f => f), h.kp.trans k (fun _ _ f => f.elim), h.base⟩
theorem OX.size {W w : World} {B : Nat} {l : List Int} {v : Value} (h : OX W B l v w) : B ≤ w.heap.size := Nat.le_trans h.base h.kp.size
theorem OX.app {W w : World} {B : Nat} {l xs : List Int} {v b : Value} (h : OX W B l v w) (hs : Sees w b xs) (hx : l.length + xs.length ≤ 1000000000) :
    ∃ a c w', (∀ ty, (Builtin.append_ #[29, 29] ty #[v, b]).run Try.prog w = .ok (.slice a (l ++ xs).length c) w') ∧ OX W B (l ++ xs) (.slice a (l ++ xs).length c) w' := by
  obtain ⟨v', w', h1, h2, h3, _⟩ := run_append_by h.size h.own hs hx
  obtain ⟨a, c, rfl⟩ := sees_form h2.sees
  exact ⟨a, c, w', h1, h2, h.kp.trans h3 (fun x _ e => (h.own.lt x e).1), h.base⟩
def OxPost (W : World) (B : Nat) (l : List Int) (e : Ending) (w' : World) : Prop := ∃ a c, e = .returned (.slice a l.length c) ∧ OX W B l (.slice a l.length c) w'

theorem be4 (n : Int) (h0 : 0 ≤ n) (h1 : n ≤ 4294967295) : be 4 n = [n / 16777216, n / 65536 % 256, n / 256 % 256, n % 256] := by
  simp [be]
  omega
set_option maxRecDepth 100000 in
set_option maxHeartbeats 800000 in
theorem four_any (n : Int) (h0 : 0 ≤ n) (h1 : n ≤ 4294967295) {W w : World} {B : Nat} {l : List Int} {v : Value} (h : OX W B l v w) (hl : l.length ≤ 1000000) :
    Calls Try.prog 24 #[v, .int .i64 n] w (OxPost W B (l ++ be 4 n)) := by
  rw [be4 n h0 h1]
  have ka : Kp (fun _ => False) w (w.alloc (.cells #[.int .u8 (n / 16777216), .int .u8 (n / 65536 % 256), .int .u8 (n / 256 % 256), .int .u8 (n % 256)] 5)) := (Kp.refl _ _).alloc _
  have hs := lit_sees w [n / 16777216, n / 65536 % 256, n / 256 % 256, n % 256] (by simp)
  obtain ⟨a, c, w2, hap, hx⟩ := (h.old ka).app hs (by simp; omega)
  obtain ⟨L', hL'⟩ : ∃ L', L' = l ++ [n / 16777216, n / 65536 % 256, n / 256 % 256, n % 256] := ⟨_, rfl⟩
  rw [← hL'] at hap hx ⊢
  clear hL'
  have HAP := Lib.hid hap
  have HX := Lib.hid hx
  clear hs ka hap hx h
  go_enter Try.func24, Try.ntmps24
  go_wp2_with ((with_reducible refine at_dst 18 ?_); refine Lib.wpList_append_run _ rfl _ _ _ _ rfl _ _ rfl rfl _ _ (HAP.out _) ?_)
  go_ret
  exact ⟨a, c, rfl, HX.out⟩

theorem form_parts {m : Ms} (h : okM m = true) : m.ids.length ≤ 32 ∧ m.bl.length ≤ 16 ∧
    form m = [m.k] ++ be 4 m.r ++ (if (ldOf m.k).bears.2.2 = 2 ∨ (ldOf m.k).bears.2.2 = 4 then be 4 ((m.ids.length : Int) + (m.bl.length : Int)) else []) ++ m.ids.flatten ++ (m.bl.map rowB).flatten := by
  obtain ⟨_, _, hf⟩ := okM_parts h
  have hb := ldOf_bd m.k
  have hk := kind_bd (k := m.k) (fun e => by rw [e] at hf; cases hf)
  have e1 : be 1 m.k = [m.k] := by simp [be]; omega
  unfold form Ms.rows
  rw [e1]
  cases hl : ldOf m.k with
  | no => rw [hl] at hf; cases hf
  | nm a b =>
    rw [hl] at hf
    obtain ⟨h1, h2, h3⟩ := fits_nm hf
    obtain ⟨_, h4⟩ := hb.1 a b hl
    refine ⟨by omega, by rw [h3]; simp, ?_⟩
    rw [h3]
    by_cases hab : a = b
    · by_cases hb0 : b = 0 <;> simp [cntRow, Ld.bears, hab, hb0]
    · simp [cntRow, Ld.bears, hab]
  | bl a b =>
    rw [hl] at hf
    obtain ⟨h1, h2, h3, _⟩ := fits_bl hf
    obtain ⟨_, h4⟩ := hb.2 a b hl
    refine ⟨by rw [h3]; simp, by omega, ?_⟩
    rw [h3]
    by_cases hab : a = b <;> simp [cntRow, Ld.bears, hab]
theorem fits_rows {m : Ms} (h : okM m = true) : ∀ x ∈ m.bl, x.length ≤ 246 := by
  obtain ⟨_, _, hf⟩ := okM_parts h
  cases hl : ldOf m.k with
  | no => rw [hl] at hf; cases hf
  | nm a b =>
    rw [hl] at hf
    obtain ⟨_, _, h3⟩ := fits_nm hf
    rw [h3]
    intro x hx
    cases hx
  | bl a b =>
    rw [hl] at hf
    exact (fits_bl hf).2.2.2
set_option maxRecDepth 100000 in
set_option maxHeartbeats 1600000 in
theorem rmbytes_any {vi vb : Value} {m : Ms} {w : World} (hw : m.wf) (hs : SeesM A w vi vb m) :
    Calls Try.prog 9 #[msV m.k m.r vi vb] w (MsOut w m) := by
  obtain ⟨a1, c1, rfl, hm1⟩ := hs.i.form
  obtain ⟨a2, c2, rfl, hm2⟩ := hs.b.form
  have k1 : Kp (fun _ => False) w (w.alloc (.cells #[.int .i64 m.k, .int .i64 m.r, .slice a1 m.ids.length c1, .slice a2 m.bl.length c2] 25)) := (Kp.refl _ _).alloc _
  have hat := MsAt.new w m.k m.r (.slice a1 m.ids.length c1) (.slice a2 m.bl.length c2)
  obtain ⟨x0, x1, x2, x3, _⟩ := hat.cells
  have hbr := rmcheck_any (hs.old k1)
  unfold msV at hbr
  have HB := Lib.hid hbr
  have K1 := Lib.hid k1
  have HA := Lib.hid hat
  have HS := Lib.hid hs
  have HW := Lib.hid hw
  clear hs hbr k1 hat hw
  by_cases hok : okM m = true
  · have e0 : chk m = 0 := by unfold chk; rw [if_pos hok]
    obtain ⟨hr0, hr1, hfit⟩ := okM_parts hok
    have hne : ldOf m.k ≠ .no := fun h => by rw [h] at hfit; cases hfit
    obtain ⟨hk0, hk1⟩ := kind_bd hne
    rw [e0] at HB
    have HE := Lib.hid e0
    have HOK := Lib.hid hok
    have HFIT := Lib.hid hfit
    have HNE := Lib.hid hne
    have hm1' : m.k % 256 = m.k := by omega
    clear e0 hok hfit hne
    go_enter Try.func9, Try.ntmps9
    unfold msV
    go_wp2_with fail
    refine HB.out.mono ?_
    rintro e w1 ⟨rfl, k2⟩
    have K2 := Lib.hid (K1.out.trans k2 (fun _ _ f => f))
    have A2 := Lib.hid (HA.out.old k2)
    obtain ⟨y0, y1, _⟩ := A2.out.cells
    have HBE := Lib.hid (bears_any m.k w1)
    clear k2
    go_wp2_with fail
    refine HBE.out.mono ?_
    rintro e w2 ⟨rfl, rfl⟩
    have ka : Kp (fun _ => False) w1 (w1.alloc (.cells #[.int .u8 m.k] 5)) := (Kp.refl _ _).alloc _
    have hfr := four_any m.r hr0 (by omega) (W := w1) (B := w1.heap.size) (w := w1.alloc (.cells #[.int .u8 m.k] 5)) (l := [m.k]) (v := .slice (some ⟨w1.heap.size, 0, none⟩) 1 1)
      ⟨.inr ⟨w1.heap.size, 1, [], rfl, Nat.le_refl _, new_blk _ _, rfl, by unfold maxLen; omega⟩, ka.mono (fun _ _ f => f.elim), Nat.le_refl _⟩ (by simp)
    obtain ⟨L3, hL3⟩ : ∃ L3, L3 = [m.k] ++ be 4 m.r := ⟨_, rfl⟩
    rw [← hL3] at hfr
    have HFR := Lib.hid hfr
    have HL3 := Lib.hid hL3
    obtain ⟨_, z1, _⟩ := (A2.out.old ka).cells
    clear ka hfr hL3
    go_wp2_with fail
    refine HFR.out.mono ?_
    rintro e w3 ⟨a3, c3, rfl, hx⟩
    have X3 := Lib.hid hx
    clear hx
    have hpt := form_parts HOK.out
    obtain ⟨hni, hnb, hft⟩ := hpt
    obtain ⟨q3, hq3⟩ : ∃ q3, q3 = (ldOf m.k).bears.2.2 := ⟨_, rfl⟩
    rw [← hq3] at hft ⊢
    have h3l : L3.length = 5 := by rw [HL3.out, List.length_append, be_length]; rfl
    obtain ⟨L4, hL4⟩ : ∃ L4, L4 = L3 ++ (if q3 = 2 ∨ q3 = 4 then be 4 ((m.ids.length : Int) + (m.bl.length : Int)) else []) := ⟨_, rfl⟩
    have hform : form m = L4 ++ m.ids.flatten ++ (m.bl.map rowB).flatten := by rw [hft, hL4, HL3.out]
    have HL4 := Lib.hid hL4
    have HFORM := Lib.hid hform
    have H4L : Hid (L4.length ≤ 9) := Lib.hid (by rw [hL4, List.length_append, h3l]; split <;> simp [be_length])
    have H3L := Lib.hid h3l
    obtain ⟨d, hd⟩ : ∃ d, d = decide (q3 = 2 ∨ q3 = 4) := ⟨_, rfl⟩
    have HD := Lib.hid hd
    have HD4 := Lib.hid (show L4 = L3 ++ (if d = true then be 4 ((m.ids.length : Int) + (m.bl.length : Int)) else []) by
      rw [hL4, hd]
      simp only [decide_eq_true_eq])
    clear hq3 hft hL4 hform h3l hd
    go_upto_region 6 with fail
    go_cut [36] from 31 to 36 (fun v wc => v = .bool d ∧ wc = w3)
    case first =>
      have hc : q3 = 2 ∨ q3 = 4 ∨ (q3 ≠ 2 ∧ q3 ≠ 4) := by omega
      rcases hc with rfl | rfl | ⟨hc1, hc2⟩
      · go_wp2_with fail
        go_meet
        case rel => exact ⟨by rw [HD.out]; rfl, rfl⟩
      · go_wp2_with fail
        go_meet
        case rel => exact ⟨by rw [HD.out]; rfl, rfl⟩
      · have g2 := beq_false hc1
        have g4 := beq_false hc2
        have hdf : d = false := by rw [HD.out]; simp [hc1, hc2]
        clear hc1 hc2
        go_wp2_with fail
        go_meet
        case rel => exact ⟨by rw [hdf], rfl⟩
    case rest =>
    obtain ⟨rfl, rfl⟩ := hcut
    go_upto_if 36 with fail
    go_cut [8] from 37 to 45 (fun v wc => ∃ a c, v = .slice a L4.length c ∧ OX w1 w1.heap.size L4 (.slice a L4.length c) wc)
    case first =>
      have hfr2 := four_any ((m.ids.length : Int) + (m.bl.length : Int)) (by omega) (by omega) X3.out (by have := H3L.out; omega)
      have z2 := (A2.out.kept X3.out.kp (fun h => by have := A2.out.lt; omega)).cells
      obtain ⟨_, _, z2, z3, _⟩ := z2
      cases d
      · have e4 : L4 = L3 := by rw [HD4.out]; simp
        subst e4
        clear hfr2
        go_wp2_with fail
        go_meet
        case rel => exact ⟨a3, c3, rfl, X3.out⟩
      · have e4 : L4 = L3 ++ be 4 ((m.ids.length : Int) + (m.bl.length : Int)) := by rw [HD4.out]; simp
        rw [← e4] at hfr2
        have HF2 := Lib.hid hfr2
        clear hfr2 e4
        go_wp2_with fail
        refine HF2.out.mono ?_
        rintro e w4 ⟨a4, c4, rfl, hx⟩
        have X4 := Lib.hid hx
        clear hx
        go_wp2_with fail
        go_meet
        case rel => exact ⟨a4, c4, rfl, X4.out⟩
    case rest =>
      obtain ⟨a4, c4, rfl, hx⟩ := hcut
      have X4 := Lib.hid hx
      clear hx
      have HIDS := Lib.hid (HS.out.i.mono (A' := fun g => g < w1.heap.size) (fun g hg _ => Nat.lt_of_lt_of_le hg K2.out.size) (fun x hx => (HW.out.idl x hx).1))
      have HROW := Lib.hid (HS.out.b.mono (A' := fun g => g < w1.heap.size) (fun g hg _ => Nat.lt_of_lt_of_le hg K2.out.size))
      have HIL := Lib.hid (fun (k : Nat) => flat_len (xs := m.ids.take k) (c := 32) (fun x hx => Nat.le_of_eq (HW.out.idl x (List.mem_of_mem_take hx)).1))
      have HBL := Lib.hid (fits_rows HOK.out)
      have HNI := Lib.hid hni
      have HNB := Lib.hid hnb
      have HLT := Lib.hid A2.out.lt
      go_wp2_with fail
      go_loopw [9, 8] (fun i y wr => ∃ (k : Nat) (L : List Int) (a c : _), k ≤ m.ids.length ∧ i = .int .i64 k ∧ Hid (L = L4 ++ (m.ids.take k).flatten) ∧ y = .slice a L.length c ∧ OX w1 w1.heap.size L (.slice a L.length c) wr) (fun i _ _ => m.ids.length - (intOf i).toNat)
      case atStart => exact ⟨0, L4, a4, c4, by omega, rfl, Lib.hid (by simp), rfl, X4.out⟩
      case round =>
        obtain ⟨k, L, a5, c5, hk, rfl, hL, rfl, hx⟩ := hrel
        obtain ⟨_, _, z2, z3, _⟩ := (A2.out.kept hx.kp (fun h => by have := HLT.out; omega)).cells
        have X5 := Lib.hid hx
        clear hx
        by_cases hlt : k < m.ids.length
        · have HLL := Lib.hid (show L.length ≤ 9 + 32 * 32 by
            have h1 := HIL.out k
            rw [List.length_take] at h1
            rw [hL.out, List.length_append]
            have := H4L.out
            have := HNI.out
            omega)
          have hx32 : m.ids[k].length = 32 := (HW.out.idl _ (List.getElem_mem hlt)).1
          have HNX := Lib.hid (show L4 ++ (m.ids.take (k + 1)).flatten = L ++ m.ids[k] by rw [hL.out, List.take_succ_eq_append_getElem hlt, List.flatten_append]; simp)
          obtain ⟨x, hxe⟩ : ∃ x, x = m.ids[k] := ⟨_, rfl⟩
          have HRG := Lib.hid (fun (w' : World) (h : Kp (fun g => w1.heap.size ≤ g) w1 w') => ((HIDS.out.kept K2.out (fun _ _ f => f)).kept h (fun g h => by omega)).at (fun x hx => (HW.out.idl x hx).1) hlt)
          rw [← hxe] at hx32 HNX HRG
          have H32 := Lib.hid hx32
          clear hx32 hxe
          go_wp2_with fail
          go_loopw [10, 8] (fun i y wr => ∃ (j : Nat) (L2 : List Int) (a c : _), j ≤ 32 ∧ i = .int .i64 j ∧ Hid (L2 = L ++ x.take j) ∧ y = .slice a L2.length c ∧ OX w1 w1.heap.size L2 (.slice a L2.length c) wr) (fun i _ _ => 32 - (intOf i).toNat)
          case atStart => exact ⟨0, L, a5, c5, by omega, rfl, Lib.hid (by simp), rfl, X5.out⟩
          case round =>
            obtain ⟨j, L2, a6, c6, hj, rfl, hL2, rfl, hx⟩ := hrel
            by_cases hjt : j < 32
            · obtain ⟨_, _, t2, t3, _⟩ := (A2.out.kept hx.kp (fun h => by have := HLT.out; omega)).cells
              obtain ⟨g, off, rfl, hr, hlc, hcm, _⟩ := HRG.out _ hx.kp
              have hcm' : c1 ≤ 9223372036854775807 := hcm
              have hc := hr j (.int .u8 (x[j]'(by have := H32.out; omega))) (by rw [U8s_get (List.getElem?_eq_getElem _)])
              have hxj : x.take (j + 1) = x.take j ++ [x[j]'(by have := H32.out; omega)] := List.take_succ_eq_append_getElem _
              obtain ⟨u, hu⟩ : ∃ u, u = x[j]'(by have := H32.out; omega) := ⟨_, rfl⟩
              rw [← hu] at hc hxj
              have h2l : L2.length ≤ 9 + 32 * 32 + 32 := by
                have h1 := HLL.out
                rw [hL2.out, List.length_append, List.length_take]
                omega
              obtain ⟨a7, c7, w7, hap, hx7⟩ := (hx.old ((Kp.refl (fun _ => False) _).alloc (.cells (U8s [u]).toArray 5))).app (lit_sees _ [u] (by simp)) (by simp; omega)
              obtain ⟨L7, hL7⟩ : ∃ L7, L7 = L2 ++ [u] := ⟨_, rfl⟩
              rw [← hL7] at hap hx7
              have HL7 := Lib.hid (show L7 = L ++ x.take (j + 1) by rw [hL7, hL2.out, hxj, List.append_assoc])
              have HAP := Lib.hid hap
              have HX7 := Lib.hid hx7
              clear hap hx7 hL7 h2l hxj hu hr hx hL2 HRG
              go_wp2_with ((with_reducible refine at_dst 66 ?_); refine Lib.wpList_append_run _ rfl _ _ _ _ rfl _ _ rfl rfl _ _ (HAP.out _) ?_)
              go_roundw
              case rel => exact ⟨j + 1, L7, a7, c7, by omega, by go_num, HL7, rfl, HX7.out⟩
              case measure => simp [intOf]; omega
            · obtain rfl : j = 32 := by omega
              have HX7 := Lib.hid hx
              have HL7 := Lib.hid (show L2 = L4 ++ (m.ids.take (k + 1)).flatten by rw [hL2.out, List.take_of_length_le (by have := H32.out; omega), HNX.out])
              clear hx hL2
              rw [show ((32 : Nat) : Int) = 32 from rfl]
              go_wp2_with fail
              go_roundw
              case rel => exact ⟨k + 1, L2, a6, c6, by omega, by go_num, HL7, rfl, HX7.out⟩
              case measure => simp [intOf]; omega
        · obtain rfl : k = m.ids.length := by omega
          have HL5 := Lib.hid (show L = L4 ++ m.ids.flatten by rw [hL.out, List.take_length])
          have H5L := Lib.hid (show L.length ≤ 9 + 32 * 32 by
            have h1 := HIL.out m.ids.length
            rw [List.take_length] at h1
            rw [HL5.out, List.length_append]
            have := H4L.out
            have := HNI.out
            omega)
          clear hL
          go_wp2_with fail
          go_loopw [11, 8] (fun i y wr => ∃ (k : Nat) (L2 : List Int) (a c : _), k ≤ m.bl.length ∧ i = .int .i64 k ∧ Hid (L2 = L ++ ((m.bl.take k).map rowB).flatten) ∧ y = .slice a L2.length c ∧ OX w1 w1.heap.size L2 (.slice a L2.length c) wr) (fun i _ _ => m.bl.length - (intOf i).toNat)
          case atStart => exact ⟨0, L, a5, c5, by omega, rfl, Lib.hid (by simp), rfl, X5.out⟩
          case round =>
            obtain ⟨k, L2, a6, c6, hk, rfl, hL2, rfl, hx⟩ := hrel
            obtain ⟨_, _, t2, t3, _⟩ := (A2.out.kept hx.kp (fun h => by have := HLT.out; omega)).cells
            by_cases hlt : k < m.bl.length
            · have hkl := hx.kp
              obtain ⟨g, off, u, rfl, hc1, hsu1, hlc, hcm, hga, hub⟩ := (HROW.out.kept K2.out (fun _ _ f => f)).at hlt
              obtain ⟨ax, cx, rfl⟩ := sees_form hsu1
              have HEC := Lib.hid (fun (w' : World) (h : Kp (fun g => w1.heap.size ≤ g) w1 w') => (show w'.cell? ⟨g, off + k, none⟩ = _ from (h.cell (p := ⟨g, off + k, none⟩) hga (fun h' => by have h'' : w1.heap.size ≤ g := h'; omega)).trans hc1))
              have HES := Lib.hid (fun (w' : World) (h : Kp (fun g => w1.heap.size ≤ g) w1 w') => hsu1.kept h (fun hne g hg h' => by have := hub hne g hg; omega))
              have hc := HEC.out _ hkl
              have hcm' : c2 ≤ 9223372036854775807 := hcm
              have hxl := HBL.out _ (List.getElem_mem hlt)
              have h2l : L2.length ≤ 9 + 32 * 32 + 16 * 250 := by
                have h1 := flat_len (xs := (m.bl.take k).map rowB) (c := 250) (fun y hy => by
                  obtain ⟨z, hz, rfl⟩ := List.mem_map.1 hy
                  have := HBL.out z (List.mem_of_mem_take hz)
                  rw [rowB, List.length_append, be_length]
                  omega)
                rw [List.length_map, List.length_take] at h1
                have h3 := H5L.out
                have := HNB.out
                rw [hL2.out, List.length_append]
                omega
              have HNX := Lib.hid (show L ++ ((m.bl.take (k + 1)).map rowB).flatten = L2 ++ be 4 (m.bl[k].length : Int) ++ m.bl[k] by
                rw [hL2.out, List.take_succ_eq_append_getElem hlt, List.map_append, List.flatten_append]; simp [rowB])
              obtain ⟨x, hxe⟩ : ∃ x, x = m.bl[k] := ⟨_, rfl⟩
              rw [← hxe] at HES HEC hc hxl HNX
              have hfr := four_any (x.length : Int) (by omega) (by omega) (hx.old ((Kp.refl _ _).drew)) (by omega)
              obtain ⟨L7, hL7⟩ : ∃ L7, L7 = L2 ++ be 4 (x.length : Int) := ⟨_, rfl⟩
              have h7l : L7.length ≤ 9 + 32 * 32 + 16 * 250 + 4 := by rw [hL7, List.length_append, be_length]; omega
              obtain ⟨L8, hL8⟩ : ∃ L8, L8 = L7 ++ x := ⟨_, rfl⟩
              rw [← hL7] at hfr HNX
              rw [← hL8] at HNX
              have HFR := Lib.hid hfr
              have H7L := Lib.hid h7l
              have HL8 := Lib.hid hL8
              have HXL := Lib.hid hxl
              have HXK := Lib.hid hx
              clear hfr hL7 hL8 h7l hxl h2l hL2 hx hxe hsu1 hub hc1 hkl
              go_upto_region 18 with fail
              go_region_law (first
                | (refine step_append_run (o := ⟨some 87, _, _, _, _, _⟩) rfl _ _ _ _ rfl _ _ rfl rfl _ _ (HAP.out _) ?_)
                | (rw [if_pos (by simp [Region.wanted])]; go_simp; refine HFR.out.mono ?_; rintro e w5 ⟨a7, c7, rfl, hx5⟩; obtain ⟨a8, c8, w8, hap, hx8⟩ := hx5.app (HES.out _ hx5.kp) (by have := H7L.out; have := HXL.out; omega); obtain ⟨_, _, s2, s3, _⟩ := (A2.out.kept hx5.kp (fun h => by have := HLT.out; omega)).cells; have s4 := HEC.out _ hx5.kp; rw [← HL8.out] at hap hx8; have HAP := Lib.hid hap; have HX8 := Lib.hid hx8; clear hap hx8 hx5))
              all_goals
                go_wp2_with fail
                go_roundw
                case rel => exact ⟨k + 1, L8, _, _, by omega, by go_num, Lib.hid HNX.out.symm, rfl, HX8.out⟩
                case measure => simp [intOf]; omega
            · obtain rfl : k = m.bl.length := by omega
              have HX6 := Lib.hid hx
              have HL6 := Lib.hid (show L2 = form m by rw [hL2.out, HL5.out, List.take_length, HFORM.out])
              have HK6 := Lib.hid ((K2.out.trans hx.kp (fun x hx hb => by have := K2.out.size; omega) : Kp (fun _ => False) w _))
              clear hx hL2
              go_wp2_with fail
              go_ret2
              exact ⟨_, by rw [HE.out]; rfl, by unfold msBytes; rw [if_pos HOK.out, ← HL6.out]; exact HX6.out.own.lower K2.out.size, HK6.out⟩
  · have e0 : chk m = 40 := by unfold chk; rw [if_neg hok]
    have e1 : msBytes m = [] := by unfold msBytes; rw [if_neg hok]
    rw [e0] at HB
    have HE := Lib.hid e0
    have HE1 := Lib.hid e1
    clear e0 e1 hok
    go_enter Try.func9, Try.ntmps9
    unfold msV
    go_wp2_with fail
    refine HB.out.mono ?_
    rintro e w1 ⟨rfl, k2⟩
    have K2 := Lib.hid (K1.out.trans k2 (fun _ _ f => f))
    clear k2
    go_wp2_with fail
    go_ret2
    exact ⟨.slice none 0 0, by rw [HE.out]; rfl, by rw [HE1.out]; exact .inl ⟨rfl, rfl⟩, K2.out⟩
end Go.Proofs.Ytleapcbkkggecaa
