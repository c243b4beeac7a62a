/-
  Messages: contract of the document's Parse.
-/
import Derived.Test.YtleapcbkkggecaaRq
import Derived.Test.YtleapcbkkggecaaRl
import Derived.Test.YtleapcbkkggecaaMx
import Derived.Test.YtleapcbkkggecaaMr
namespace Go.Proofs.Ytleapcbkkggecaa
open Go.ChangeShapes Go.WideShapes Go.ChangeAt Go.RowKit

theorem Sees.cell0 {w : World} {g o c : Nat} {b : List Int} (h : Sees w (.slice (some ⟨g, o, none⟩) b.length c) b) (hl : 0 < b.length) : w.cell? ⟨g, o, none⟩ = some (.int .u8 b[0]) := by
  rcases h with ⟨h, _⟩ | ⟨ad, cap, hv, _, _, hc⟩
  · cases h
  · obtain ⟨rfl, _⟩ : (⟨g, o, none⟩ : Addr) = ad ∧ c = cap := by injection hv with a _ b; exact ⟨by injection a, b⟩
    have := hc 0 b[0] (List.getElem?_eq_getElem hl)
    rwa [Addr.add_lit] at this
theorem lay_one (W : World) (s n : Nat) (hs : W.heap.size = s) (k r : Int) : MsAt ((W.drewN n).alloc (.cells #[.int .i64 k, .int .i64 r, .slice none 0 0, .slice none 0 0] 25)) s k r (.slice none 0 0) (.slice none 0 0) ∧
    Kp (fun _ => False) W ((W.drewN n).alloc (.cells #[.int .i64 k, .int .i64 r, .slice none 0 0, .slice none 0 0] 25)) := by
  subst hs
  exact ⟨new_blk (W.drewN n) _, ((Kp.refl _ _).drewN n).alloc _⟩
theorem lay_two (W : World) (s n : Nat) (hs : W.heap.size = s) (k r : Int) : MsAt ((((((W.alloc (.cells #[.int .i64 0, .int .i64 0, .slice none 0 0, .slice none 0 0] 25)).drewN n).setCell ⟨s, 0, none⟩ (.int .i64 k)).setCell ⟨s, 1, none⟩ (.int .i64 r)).setCell ⟨s, 2, none⟩ (.slice none 0 0)).setCell ⟨s, 3, none⟩ (.slice none 0 0)) s k r (.slice none 0 0) (.slice none 0 0) ∧
    Kp (fun _ => False) W ((((((W.alloc (.cells #[.int .i64 0, .int .i64 0, .slice none 0 0, .slice none 0 0] 25)).drewN n).setCell ⟨s, 0, none⟩ (.int .i64 k)).setCell ⟨s, 1, none⟩ (.int .i64 r)).setCell ⟨s, 2, none⟩ (.slice none 0 0)).setCell ⟨s, 3, none⟩ (.slice none 0 0)) := by
  subst hs
  have h0 : ((W.alloc (.cells #[.int .i64 0, .int .i64 0, .slice none 0 0, .slice none 0 0] 25)).drewN n).heap[W.heap.size]? = some (.cells #[.int .i64 0, .int .i64 0, .slice none 0 0, .slice none 0 0] 25 (0, 0)) := new_blk W _
  have h1 := set_blk h0 0 (.int .i64 k)
  have h2 := set_blk h1 1 (.int .i64 r)
  have h3 := set_blk h2 2 (.slice none 0 0)
  have h4 := set_blk h3 3 (.slice none 0 0)
  exact ⟨h4, ((((((Kp.refl (fun _ => False) W).alloc _).drewN n).setCell (p := ⟨W.heap.size, 0, none⟩) (fun h => absurd h (Nat.lt_irrefl _)) _).setCell (p := ⟨W.heap.size, 1, none⟩) (fun h => absurd h (Nat.lt_irrefl _)) _).setCell (p := ⟨W.heap.size, 2, none⟩) (fun h => absurd h (Nat.lt_irrefl _)) _).setCell (p := ⟨W.heap.size, 3, none⟩) (fun h => absurd h (Nat.lt_irrefl _)) _⟩
theorem numAt_bd {b : List Int} (hr : Rng b) (k : Nat) : -9223372036854775808 ≤ numAt b k ∧ numAt b k ≤ 9223372036854775807 := by
  unfold numAt
  split
  · have h := val_bd ((b.drop k).take 4) (fun x hx => hr x (List.mem_of_mem_drop (List.mem_of_mem_take hx)))
    have h2 : (256 : Int) ^ ((b.drop k).take 4).length ≤ 256 ^ 4 := pow_le_le _ _ (by rw [List.length_take]; omega)
    have h3 : (256 : Int) ^ 4 = 4294967296 := by decide
    omega
  · omega
theorem Sees.cellAt {w : World} {g o c : Nat} {b : List Int} (h : Sees w (.slice (some ⟨g, o, none⟩) b.length c) b) {q : Nat} (hq : q < b.length) : w.cell? ⟨g, o + q, none⟩ = some (.int .u8 b[q]) := by
  rcases h with ⟨h, _⟩ | ⟨ad, cap, hv, _, _, hc⟩
  · cases h
  · obtain ⟨rfl, _⟩ : (⟨g, o, none⟩ : Addr) = ad ∧ c = cap := by injection hv with a _ b; exact ⟨by injection a, b⟩
    have := hc q b[q] (List.getElem?_eq_getElem hq)
    rwa [Addr.add_lit] at this
theorem row_at (x : List Int) (p : Nat) (hp : p < 32) (hx : p < x.length) : (U8s (x.take p ++ List.replicate (32 - p) 0)).toArray[p]? = some (.int .u8 0) := by
  rw [List.getElem?_toArray]
  apply U8s_get
  rw [List.getElem?_append_right (by rw [List.length_take]; omega), List.length_take, Nat.min_eq_left (by omega), Nat.sub_self, List.getElem?_replicate, if_pos (by omega)]
theorem row_set (x : List Int) (p : Nat) (hp : p < 32) (hx : p < x.length) (u : Int) (hu : u = x[p]) : (U8s (x.take p ++ List.replicate (32 - p) 0)).toArray.setIfInBounds p (.int .u8 u) = (U8s (x.take (p + 1) ++ List.replicate (32 - (p + 1)) 0)).toArray := by
  subst hu
  apply Array.ext'
  have e : List.replicate (32 - p) (0 : Int) = 0 :: List.replicate (32 - (p + 1)) 0 := by rw [← List.replicate_succ]; congr 1; omega
  rw [e, List.take_succ_eq_append_getElem hx]
  have hl : (x.take p).length = p := by rw [List.length_take]; omega
  simp only [Array.toList_setIfInBounds, U8s, List.map_append, List.map_cons, List.map_nil]
  rw [List.set_append_right _ _ (by rw [List.length_map]; omega), List.length_map, hl, Nat.sub_self]
  simp
theorem rdI_at (b : List Int) (hd : Nat) : ∀ i, (rdI b hd i).1 = hd + 32 * i
  | 0 => rfl
  | i + 1 => by
    have := rdI_at b hd i
    show (rdI b hd i).1 + 32 = _
    omega
theorem rdI_ok {b : List Int} (hr : Rng b) (hd : Nat) : ∀ i, ∀ x ∈ (rdI b hd i).2, Rng x
  | 0, x, hx => by cases hx
  | i + 1, x, hx => by
    rcases List.mem_append.1 hx with h | h
    · exact rdI_ok hr hd i x h
    · rw [List.mem_singleton.1 h]
      exact fun y hy => hr y (List.mem_of_mem_drop (List.mem_of_mem_take hy))
theorem hkp0 {w w' : World} {o : Obj} (h : Kp (fun g => w.heap.size + 1 ≤ g) (w.alloc o) w') : Kp (fun _ => False) (w.alloc o) w' :=
  h.mono (fun x hx e => by rw [World.size_alloc] at hx; omega)
theorem at_step (s : Nat) {P : Program} {ops : Array Oper} {op : Op} {ty : TypeId} {pos : String} {af : Array Edge} {g : Option (Nat × Bool)} {a : Act} {w : World} {K : Act → World → Prop} {Q : Exit → Act → World → Prop} {E : Prop}
    (h : if Region.wanted ⟨some s, op, ty, pos, af, g⟩ (yielded ops a.tmps) = true then Oper.wp P ⟨some s, op, ty, pos, af, g⟩ a w K Q else E) : if Region.wanted ⟨some s, op, ty, pos, af, g⟩ (yielded ops a.tmps) = true then Oper.wp P ⟨some s, op, ty, pos, af, g⟩ a w K Q else E := h
theorem RB.old {w w' : World} {B g4 i : Nat} {k r : Int} {vi vb : Value} {ids rows : List (List Int)} (h : RB w B g4 k r vi vb ids i rows) (kp : Kp (fun _ => False) w w') : RB w' B g4 k r vi vb ids i rows := by
  obtain ⟨us, ho, hel⟩ := h.own
  exact ⟨h.ms.old kp, ⟨us, ho.kept kp (fun _ _ f => f), fun j x hj => by
    obtain ⟨u, g1, g2, g3⟩ := hel j x hj
    exact ⟨u, g1, g2.kept kp (fun _ _ f => f), g3⟩⟩, h.ne, h.seesI.kept kp (fun _ _ f => f), h.len, h.idl, h.base⟩
theorem rdR_ok {b : List Int} (hr : Rng b) (hd : Nat) : ∀ i, ∀ x ∈ (rdR b hd i).2, Rng x
  | 0, x, hx => by cases hx
  | i + 1, x, hx => by
    rcases List.mem_append.1 hx with h | h
    · exact rdR_ok hr hd i x h
    · rw [List.mem_singleton.1 h]
      exact fun y hy => hr y (List.mem_of_mem_drop (List.mem_of_mem_take hy))
theorem bears_bd (l : Ld) : -10 ≤ l.bears.2.2 ∧ l.bears.2.2 ≤ 10 := by
  cases l with
  | no => simp [Ld.bears]
  | nm a b => simp only [Ld.bears]; split <;> (try split) <;> simp
  | bl a b => simp only [Ld.bears]; split <;> simp
theorem bears_cnt (l : Ld) : ∀ a c : Nat, (l = .nm a c ∨ l = .bl a c) → ((a ≠ c ↔ l.bears.2.2 = 2 ∨ l.bears.2.2 = 4)) := by
  rintro a c (rfl | rfl)
  · by_cases h : a = c
    · by_cases h2 : c = 0 <;> simp [Ld.bears, h, h2]
    · simp [Ld.bears, h]
  · by_cases h : a = c <;> simp [Ld.bears, h]
theorem prs_no {b : List Int} (hr : Rng b) (h : ∀ m, GoodM b m → False) : prs b = (ms0, 40) := prs_of_none hr (fun m h1 h2 h3 => h m ⟨h1, h2, h3⟩)

set_option maxRecDepth 100000 in
set_option maxHeartbeats 6400000 in
theorem rmparse_any {b : List Int} {v : Value} (hr : Rng b) (hl : b.length ≤ 100000) {w : World} (hs : Sees w v b) :
    Calls Try.prog 17 #[v] w (MsIn w b) := by
  obtain ⟨a0, c0, rfl⟩ := sees_form hs
  have k1 : Kp (fun _ => False) w (w.alloc (.cells #[.int .i64 0, .int .i64 0, .slice none 0 0, .slice none 0 0] 25)) := (Kp.refl _ _).alloc _
  have HA0 := Lib.hid (MsAt.new w 0 0 (.slice none 0 0) (.slice none 0 0))
  have HR := Lib.hid hr
  have HL := Lib.hid hl
  have HS := Lib.hid (hs.kept k1 (fun _ _ _ f => f))
  have K1 := Lib.hid k1
  have HGL0 := Lib.hid (fun (hne : b ≠ []) => hs.lt hne)
  clear hs hr k1
  by_cases h5 : b.length < 5
  · have HP := Lib.hid (prs_no HR.out (fun m h => by have := (good_head h).1; omega))
    have h5' : (b.length : Int) < 5 := by omega
    clear h5
    go_enter Try.func17, Try.ntmps17
    go_wp2_with ((with_reducible refine at_store 2 19 ?_); refine wpList_store_row rfl 25 _ _ rfl w.heap.size #[.int .i64 0, .int .i64 0, .slice none 0 0, .slice none 0 0] rfl rfl 25 _ HA0.out (infoMs _ _ _ _) rfl (msOne _ _ _ _ _ _ _ _) ?_)
    refine bodyPost_ret (v := .tuple #[msV 0 0 (.slice none 0 0) (.slice none 0 0), .int .i64 40]) (results_cell_tmp' Try.results17 _ _ w.heap.size 25 _ (0, 0) _ _ rfl rfl (setRow_blk HA0.out) Try.underlying25 rfl (infoMs _ _ _ _)) rfl ⟨.slice none 0 0, .slice none 0 0, by rw [HP.out] <;> rfl, by rw [HP.out]; exact sees0 _ _, K1.out.setRow (fun hlt => by omega) _⟩
  have h5' : ¬ (b.length : Int) < 5 := by omega
  have HGL := Lib.hid (HGL0.out (by rintro rfl; simp at h5))
  obtain ⟨g, o, c, he, hlc, hcm⟩ := HS.out.lit (by rintro rfl; simp at h5)
  injection he with e1 _ e3
  subst e1 e3
  have hx0 := HS.out.cell0 (by omega)
  have hgl : g < w.heap.size := HGL.out g rfl
  have r0 := HR.out b[0] (List.getElem_mem (by omega))
  obtain ⟨x0, hx0e⟩ : ∃ x0, x0 = b[0]'(by omega) := ⟨_, rfl⟩
  rw [← hx0e] at hx0 r0
  have hcm' : c0 ≤ 9223372036854775807 := hcm
  have HNUM := Lib.hid (fun (w' : World) (k : Kp (fun _ => False) _ w') (j : Nat) (hj : j ≤ 2000000) => mnum_any HR.out (by omega) j hj (HS.out.kept k (fun _ _ _ f => f)))
  obtain ⟨r, hre⟩ : ∃ r, r = numAt b 1 := ⟨_, rfl⟩
  have HN1 := Lib.hid (fun (w' : World) (k : Kp (fun _ => False) _ w') => (by have := HNUM.out w' k 1 (by omega); rw [← hre] at this; exact this : Calls Try.prog 35 #[.slice (some ⟨g, o, none⟩) b.length c0, .int .i64 1] w' fun e w'' => e = .returned (.int .i64 r) ∧ ∃ n, w'' = w'.drewN n))
  have HRE := Lib.hid hre
  have HX0 := Lib.hid hx0e
  clear hx0e hre
  have hw0 : IntKind.i64.wrap x0 = x0 := IntWalk.i64_in _ (by omega)
  go_enter Try.func17, Try.ntmps17
  go_upto_region 3 with fail
  go_cut [4] from 20 to 26 (fun p wc => p = .pointer (some ⟨w.heap.size + 1, 0, none⟩) ∧ MsAt wc (w.heap.size + 1) x0 r (.slice none 0 0) (.slice none 0 0) ∧ Kp (fun _ => False) (w.alloc (.cells #[.int .i64 0, .int .i64 0, .slice none 0 0, .slice none 0 0] 25)) wc)
  case first =>
    go_region_with (first
      | (go_at_call 35; refine (HN1.out _ (by first | exact (Kp.refl _ _).drew | exact ((Kp.refl _ _).drew).alloc _)).mono ?_; rintro e w4 ⟨rfl, n4, rfl⟩))
    all_goals
      go_wp2_with fail
      go_meet
      case rel => first
        | with_reducible exact ⟨rfl, lay_one _ _ _ (World.size_alloc _ _) _ _⟩
        | with_reducible exact ⟨rfl, lay_two _ _ _ (World.size_alloc _ _) _ _⟩
  case rest =>
  obtain ⟨rfl, hma, hka⟩ := hcut
  obtain ⟨y0, y1, y2, y3, _⟩ := hma.cells
  have MA := Lib.hid hma
  have KA := Lib.hid hka
  have A1 := Lib.hid (HA0.out.old hka)
  have HBE := Lib.hid (bears_any x0)
  obtain ⟨Ld0, hLd⟩ : ∃ L, L = ldOf x0 := ⟨_, rfl⟩
  rw [← hLd] at HBE
  have HLD := Lib.hid hLd
  have hbh := bears_how Ld0
  have hbd := ldOf_bd x0
  rw [← hLd] at hbd
  have hlo : -10 ≤ Ld0.bears.2.2 ∧ Ld0.bears.2.2 ≤ 10 := bears_bd Ld0
  have hcn : ∀ a c : Nat, (Ld0 = .nm a c ∨ Ld0 = .bl a c) → ((a ≠ c ↔ Ld0.bears.2.2 = 2 ∨ Ld0.bears.2.2 = 4)) := bears_cnt Ld0
  obtain ⟨q1, hq1⟩ : ∃ q, q = Ld0.bears.1 := ⟨_, rfl⟩
  obtain ⟨q2, hq2⟩ : ∃ q, q = Ld0.bears.2.1 := ⟨_, rfl⟩
  obtain ⟨q3, hq3⟩ : ∃ q, q = Ld0.bears.2.2 := ⟨_, rfl⟩
  rw [← hq1, ← hq2, ← hq3] at HBE hbh
  rw [← hq3] at hlo hcn
  have HBH := Lib.hid hbh
  have HBD := Lib.hid hbd
  have HCN := Lib.hid hcn
  have HQ1 := Lib.hid hq1
  have HQ2 := Lib.hid hq2
  have HQ3 := Lib.hid hq3
  have hrb : -9223372036854775808 ≤ r ∧ r ≤ 9223372036854775807 := by
    rw [HRE.out]
    exact numAt_bd HR.out 1
  -- what a good message says of these
  have HGK := Lib.hid (fun (m : Ms) (h : GoodM b m) => (show m.k = x0 ∧ m.r = r from by
    obtain ⟨h1, h2, h3⟩ := good_head h
    rw [HX0.out, HRE.out]
    rw [List.getElem?_eq_getElem (by omega)] at h2
    exact ⟨(Option.some.inj h2).symm, h3.symm⟩))
  clear hma hka hLd hbh hbd hcn hq1 hq2 hq3
  go_wp2_with fail
  refine (HBE.out _).mono ?_
  rintro e w2 ⟨rfl, rfl⟩
  cases hL : Ld0 with
  | no =>
    rw [hL] at HBH HCN HLD
    have h3 : q3 < 0 := HBH.out.1.2 rfl
    have g2 : (q3 == 2) = false := beq_false (by omega)
    have g4 : (q3 == 4) = false := beq_false (by omega)
    have hq20 : ¬ (0 : Int) < q2 := by rw [HQ2.out, hL]; simp [Ld.bears]
    have HNG := Lib.hid (fun (m : Ms) (h : GoodM b m) => (show m = ⟨x0, r, [], []⟩ from by
      obtain ⟨_, _, hf⟩ := okM_parts h.ok
      rw [(HGK.out m h).1, ← HLD.out] at hf
      cases hf))
    have HSM := Lib.hid (show SeesM (fun g => w.heap.size + 1 ≤ g ∧ g ≠ w.heap.size + 1) wc (.slice none 0 0) (.slice none 0 0) ⟨x0, r, [], []⟩ from ⟨.inl ⟨rfl, rfl⟩, .inl ⟨rfl, rfl⟩⟩)
    have HWF := Lib.hid (show (⟨x0, r, [], []⟩ : Ms).wf from ⟨by show _ ≤ x0; omega, by show x0 ≤ _; omega, hrb.1, hrb.2, (fun x hx => by cases hx), (fun x hx => by cases hx)⟩)
    have HMT := MA
    have HRT := A1
    have HKB := KA
    have HKT := Lib.hid (K1.out.trans KA.out (fun _ _ f => f))
    clear hL
    go_wp2_with fail
    go_loopw [10, 8] (fun i y wr => i = .int .i64 0 ∧ wr = wc) (fun _ _ _ => 0)
    case atStart => exact ⟨rfl, rfl⟩
    case round =>
      obtain ⟨rfl, rfl⟩ := hrel
      go_wp2_with fail
      obtain ⟨t0, t1, t2, t3, _⟩ := HMT.out.cells
      have hby := rmbytes_any HWF.out HSM.out
      unfold MsOut msV at hby
      have HBY := Lib.hid hby
      clear hby
      go_wp2_with fail
      refine HBY.out.mono ?_
      rintro e w8 ⟨v8, rfl, o8, k8⟩
      obtain ⟨a8, c8, rfl⟩ := sees_form o8.sees
      have S1 := run_string_of o8.sees
      have S2 := run_string_of (HS.out.kept ((show Kp (fun _ => False) (w.alloc (.cells #[.int .i64 0, .int .i64 0, .slice none 0 0, .slice none 0 0] 25)) w8 from HKB.out.trans k8 (fun _ _ f => f))) (fun _ _ _ f => f))
      have hq := strOf_inj (msBytes_rng HWF.out) HR.out
      have HR8 := Lib.hid (HRT.out.old k8)
      have HM8 := Lib.hid (HMT.out.old k8)
      have HS8 := Lib.hid (HSM.out.old k8)
      have HK8 := Lib.hid (HKT.out.trans k8 (fun _ _ f => f))
      clear k8 o8
      by_cases hok : okM (⟨x0, r, [], []⟩ : Ms) = true
      · have hbb : msBytes (⟨x0, r, [], []⟩ : Ms) = form (⟨x0, r, [], []⟩ : Ms) := by unfold msBytes; rw [if_pos hok]
        rw [show chk (⟨x0, r, [], []⟩ : Ms) = 0 by unfold chk; rw [if_pos hok]]
        rw [hbb] at S1 hq ⊢
        by_cases hfb : form (⟨x0, r, [], []⟩ : Ms) = b
        · have HP := Lib.hid (prs_of_good HWF.out hok hfb)
          rw [decide_eq_true hfb] at hq
          obtain ⟨s0, s1, s2, s3, _⟩ := HM8.out.cells
          clear hok hbb hfb
          go_wp2_with ((with_reducible refine at_store 2 139 ?_); refine wpList_store_row rfl 25 _ _ rfl w.heap.size #[.int .i64 x0, .int .i64 r, .slice none 0 0, .slice none 0 0] rfl rfl 25 _ HR8.out (infoMs _ _ _ _) rfl (msOne _ _ _ _ _ _ _ _) ?_)
          refine bodyPost_ret (v := .tuple #[msV x0 r (.slice none 0 0) (.slice none 0 0), .int .i64 0]) (results_cell_tmp' Try.results17 _ _ w.heap.size 25 _ (0, 0) _ _ rfl rfl (setRow_blk HR8.out) Try.underlying25 rfl (infoMs _ _ _ _)) rfl ⟨_, _, by rw [HP.out] <;> rfl, ?_, HK8.out.setRow (fun hlt => by omega) _⟩
          rw [HP.out]
          exact (HS8.out.kept ((Kp.refl (fun y => y = w.heap.size) _).setRow (fun _ => rfl) _) (fun g hg e => by have e' : g = w.heap.size := e; have h1 : w.heap.size + 1 ≤ g := hg.1; omega)).mono (fun g _ hg => by have h1 : w.heap.size + 1 ≤ g := hg.1; omega) HWF.out
        · have HP := Lib.hid (prs_no HR.out (fun m h => hfb (by rw [← HNG.out m h]; exact h.form)))
          rw [decide_eq_false hfb] at hq
          clear hok hbb hfb
          go_wp2_with ((with_reducible refine at_store 2 138 ?_); refine wpList_store_row rfl 25 _ _ rfl w.heap.size #[.int .i64 0, .int .i64 0, .slice none 0 0, .slice none 0 0] rfl rfl 25 _ HR8.out (infoMs _ _ _ _) rfl (msOne _ _ _ _ _ _ _ _) ?_)
          refine bodyPost_ret (v := .tuple #[msV 0 0 (.slice none 0 0) (.slice none 0 0), .int .i64 40]) (results_cell_tmp' Try.results17 _ _ w.heap.size 25 _ (0, 0) _ _ rfl rfl (setRow_blk HR8.out) Try.underlying25 rfl (infoMs _ _ _ _)) rfl ⟨.slice none 0 0, .slice none 0 0, by rw [HP.out] <;> rfl, by rw [HP.out]; exact sees0 _ _, HK8.out.setRow (fun hlt => by omega) _⟩
      · have HP := Lib.hid (prs_no HR.out (fun m h => hok (by rw [← HNG.out m h]; exact h.ok)))
        rw [show chk (⟨x0, r, [], []⟩ : Ms) = 40 by unfold chk; rw [if_neg hok]]
        clear hok hq
        go_wp2_with ((with_reducible refine at_store 2 138 ?_); refine wpList_store_row rfl 25 _ _ rfl w.heap.size #[.int .i64 0, .int .i64 0, .slice none 0 0, .slice none 0 0] rfl rfl 25 _ HR8.out (infoMs _ _ _ _) rfl (msOne _ _ _ _ _ _ _ _) ?_)
        refine bodyPost_ret (v := .tuple #[msV 0 0 (.slice none 0 0) (.slice none 0 0), .int .i64 40]) (results_cell_tmp' Try.results17 _ _ w.heap.size 25 _ (0, 0) _ _ rfl rfl (setRow_blk HR8.out) Try.underlying25 rfl (infoMs _ _ _ _)) rfl ⟨.slice none 0 0, .slice none 0 0, by rw [HP.out] <;> rfl, by rw [HP.out]; exact sees0 _ _, HK8.out.setRow (fun hlt => by omega) _⟩
  | nm a c =>
    rw [hL] at HBH HCN HLD HBD
    obtain ⟨g1, g2, g3, g4⟩ := HBH.out.2.1 a c rfl
    obtain ⟨hac0, hcb⟩ := HBD.out.1 a c rfl
    subst g1 g2
    have hq30 : ¬ q3 < 0 := by omega
    have hcnt := HCN.out a c (.inl rfl)
    clear hL HQ1 HQ2 HQ3
    by_cases hac : a = c
    · have h2 : (q3 == 2) = false := beq_false (fun e => absurd hac (hcnt.2 (.inl e)))
      have h4 : (q3 == 4) = false := beq_false (fun e => absurd hac (hcnt.2 (.inr e)))
      obtain ⟨N, hN⟩ : ∃ N, N = c := ⟨_, rfl⟩
      rw [← hN]
      have HNN := Lib.hid hN
      have hN32 : N ≤ 32 := by omega
      clear hN
      have hhd : hdOf a c = 5 := by unfold hdOf; rw [if_pos hac]
      have HHD := Lib.hid hhd
      have HRI := Lib.hid (rdI_at b 5)
      have HRW := Lib.hid (rdI_ok HR.out 5)
      have HNG := Lib.hid (fun (m : Ms) (h : GoodM b m) => (show m = ⟨x0, r, (rdI b 5 N).2, []⟩ from by
        have hk := HGK.out m h
        have hl : ldOf m.k = .nm a c := by rw [hk.1, ← HLD.out]
        obtain ⟨e1, e2, e3, e4, e5, e6⟩ := good_nm h hl
        have hN : N = m.ids.length := by have := HNN.out; omega
        have e7 := (e6 N (by omega)).1
        rw [HHD.out] at e7
        cases m
        simp only [] at hk hN e3 e7
        rw [e7, hN, List.take_length, hk.1, hk.2, e3]))
      have HEX := Lib.hid (fun (j : Nat) (hj : j < N) (hs : b.length < 5 + 32 * j + 32) (m : Ms) (h : GoodM b m) => (show False from by
        have hk := HGK.out m h
        have hl : ldOf m.k = .nm a c := by rw [hk.1, ← HLD.out]
        obtain ⟨e1, e2, e3, e4, e5, e6⟩ := good_nm h hl
        have hN : N = m.ids.length := by have := HNN.out; omega
        have e7 := (e6 j (by omega)).2 (by omega)
        rw [HHD.out] at e7
        omega))
      have hNI0 : NI wc (w.heap.size + 1) (w.heap.size + 1) x0 r (.slice none 0 0) 0 (rdI b 5 0).2 := ⟨MA.out, OwnG.nil _ _ _ _, (fun e => by cases e), (fun x hx => by cases hx), rfl, Nat.le_refl _⟩
      have HNI0 := Lib.hid hNI0
      have HID := Lib.hid (fun (x : List Int) (h : x.length = 32) => infoId' h)
      have HKA2 := Lib.hid (show Kp (fun g => w.heap.size + 1 ≤ g) (w.alloc (.cells #[.int .i64 0, .int .i64 0, .slice none 0 0, .slice none 0 0] 25)) wc from KA.out.mono (fun _ _ f => f.elim))
      clear hNI0 hhd
      go_wp2_with fail
      go_loopw [10, 8] (fun i y wr => ∃ (j A : Nat) (vi : Value), j ≤ N ∧ i = .int .i64 j ∧ Hid (A = 5 + 32 * j) ∧ y = .int .i64 (A : Int) ∧ NI wr (w.heap.size + 1) (w.heap.size + 1) x0 r vi j (rdI b 5 j).2 ∧ Kp (fun g => w.heap.size + 1 ≤ g) (w.alloc (.cells #[.int .i64 0, .int .i64 0, .slice none 0 0, .slice none 0 0] 25)) wr) (fun i _ _ => N - (intOf i).toNat)
      case atStart => exact ⟨0, 5, _, by omega, rfl, Lib.hid rfl, rfl, HNI0.out, HKA2.out⟩
      case round =>
        obtain ⟨j, A, vi, hj, rfl, hA, rfl, hni, hkp⟩ := hrel
        have hA2 : A ≤ 2000 := by have := hA.out; omega
        obtain ⟨t0, t1, t2, t3, tf⟩ := hni.ms.cells
        obtain ⟨a9, c9, hvi⟩ := hni.own.form
        have HNI := Lib.hid hni
        have HKP := Lib.hid hkp
        have HAR := Lib.hid (HA0.out.kept hkp (fun e => by omega))
        have HKW := Lib.hid (show Kp (fun _ => False) w wr from K1.out.trans hkp (fun x hx e => by omega))
        by_cases hlt : j < N
        · have hjN : (j : Int) < ((N : Int)) := by omega
          by_cases hsh : b.length < A + 32
          · have HP := Lib.hid (prs_no HR.out (HEX.out j hlt (by have := hA.out; omega)))
            have hsh' : (b.length : Int) - (A : Int) < 32 := by omega
            clear hni hkp hsh tf
            go_wp2_with ((with_reducible refine at_store 2 70 ?_); refine wpList_store_row rfl 25 _ _ rfl w.heap.size #[.int .i64 0, .int .i64 0, .slice none 0 0, .slice none 0 0] rfl rfl 25 _ HAR.out (infoMs _ _ _ _) rfl (msOne _ _ _ _ _ _ _ _) ?_)
            refine bodyPost_ret (v := .tuple #[msV 0 0 (.slice none 0 0) (.slice none 0 0), .int .i64 40]) (results_cell_tmp' Try.results17 _ _ w.heap.size 25 _ (0, 0) _ _ rfl rfl (setRow_blk HAR.out) Try.underlying25 rfl (infoMs _ _ _ _)) rfl ⟨.slice none 0 0, .slice none 0 0, by rw [HP.out] <;> rfl, by rw [HP.out]; exact sees0 _ _, HKW.out.setRow (fun hlt => by omega) _⟩
          · have hsh' : ¬ (b.length : Int) - (A : Int) < 32 := by omega
            have hAb : A + 32 ≤ b.length := by omega
            obtain ⟨x, hxe⟩ : ∃ x, x = (b.drop A).take 32 := ⟨_, rfl⟩
            have hx32 : x.length = 32 := by rw [hxe, List.length_take, List.length_drop]; omega
            have HXP := Lib.hid (fun (p : Nat) (hp : p < 32) => (show x[p]'(by omega) = b[A + p]'(by omega) by simp only [hxe, List.getElem_take, List.getElem_drop]))
            have HNX := Lib.hid (show (rdI b 5 (j + 1)).2 = (rdI b 5 j).2 ++ [x] by
              show _ ++ [(b.drop (rdI b 5 j).1).take 32] = _
              rw [HRI.out j, ← hA.out, ← hxe])
            have HX32 := Lib.hid hx32
            have HCB := Lib.hid (fun (w' : World) (k : Kp (fun g => w.heap.size + 1 ≤ g) (w.alloc (.cells #[.int .i64 0, .int .i64 0, .slice none 0 0, .slice none 0 0] 25)) w') (q : Nat) (hq : q < b.length) => (HS.out.kept (hkp0 k) (fun _ _ _ f => f)).cellAt hq)
            obtain ⟨wo, rfl⟩ : ∃ wo, wo = wr := ⟨wr, rfl⟩
            obtain ⟨gi, hgi⟩ : ∃ gi, gi = wo.heap.size := ⟨_, rfl⟩
            have hgB : w.heap.size + 1 ≤ gi := by have := hkp.size; rw [World.size_alloc] at this; omega
            have hni' := hni
            clear hni hkp tf
            go_wp2_with fail
            rw [← hgi]
            go_loopw [12] (fun i wr => ∃ p : Nat, p ≤ 32 ∧ i = .int .i64 p ∧ wr.heap[gi]? = some (.cells (U8s (x.take p ++ List.replicate (32 - p) 0)).toArray 37 (0, 0)) ∧ Kp (fun _ => False) wo wr ∧ wr.heap.size = gi + 1) (fun i _ => 32 - (intOf i).toNat)
            case atStart => exact ⟨0, by omega, rfl, by rw [hgi]; exact new_blk wo _, (Kp.refl _ _).alloc _, by rw [hgi]; exact World.size_alloc _ _⟩
            case round =>
              obtain ⟨p, hp, rfl, hrow, hki, hsz⟩ := hrel
              have HGI := Lib.hid hgi
              clear hgi
              by_cases hpt : p < 32
              · have hcb := HCB.out _ (HKP.out.trans hki (fun _ _ f => f.elim)) (A + p) (by omega)
                rw [← HXP.out p hpt] at hcb
                have hxt := HX32.out
                obtain ⟨u, hu⟩ : ∃ u, u = x[p]'(by omega) := ⟨_, rfl⟩
                have hcell0 := cell_blk hrow p
                rw [row_at x p hpt (by omega)] at hcell0
                have hfr0 := free_blk hrow p
                have hset := set_blk hrow p (.int .u8 u)
                rw [row_set x p hpt (by omega) u hu] at hset
                rw [← hu] at hcb
                have kset : Kp (fun _ => False) wo (wr.setCell ⟨gi, p, none⟩ (.int .u8 u)) := hki.setCell (p := ⟨gi, p, none⟩) (fun h => by have h' : gi < wo.heap.size := h; have := HGI.out; omega) _
                have HSET := Lib.hid hset
                have KSET := Lib.hid kset
                have HSZ := Lib.hid (show (wr.setCell ⟨gi, p, none⟩ (.int .u8 u)).heap.size = gi + 1 by rw [World.size_setCell]; exact hsz)
                clear hset kset hu hrow hki hsz
                go_wp2_with fail
                go_roundw
                case rel => exact ⟨p + 1, by omega, by go_num, HSET.out, KSET.out, HSZ.out⟩
                case measure => simp [intOf]; omega
              · obtain rfl : p = 32 := by omega
                rw [List.take_of_length_le (by have := HX32.out; omega), Nat.sub_self, List.replicate_zero, List.append_nil] at hrow
                have hni2 : NI wr (w.heap.size + 1) (w.heap.size + 1) x0 r vi j (rdI b 5 j).2 := ⟨HNI.out.ms.old hki, HNI.out.own.kept hki (fun _ _ f => f), HNI.out.ne, HNI.out.idl, HNI.out.len, HNI.out.base⟩
                obtain ⟨b3, d3, w3, hap3, hm3, hk3, hn3⟩ := hni2.step (x := x) (by omega) HX32.out (by omega)
                rw [← HNX.out] at hn3
                obtain ⟨z0, z1, z2, z3, zf⟩ := hm3.cells
                have zf2 := zf 2
                obtain ⟨i0, i1, i2, i3, _⟩ := hni2.ms.cells
                have HAP := Lib.hid hap3
                have HN3 := Lib.hid hn3
                have HK3 := Lib.hid ((HKP.out.trans hki (fun _ _ f => f.elim)).trans hk3 (fun _ _ f => f))
                have HROW := Lib.hid hrow
                have HMK := Lib.hid (mk1Id x HX32.out)
                subst hvi
                clear hrow hki hsz hni2 hap3 hm3 hk3 hn3 zf hni'
                rw [show ((32 : Nat) : Int) = 32 from rfl]
                go_wp2_with (first
                  | ((with_reducible refine at_dst 85 ?_); refine wpList_load_row rfl 37 _ rfl gi rfl 37 _ (0, 0) _ HROW.out Try.underlying37 rfl (by rw [List.size_toArray]; exact HID.out x HX32.out) ?_)
                  | ((with_reducible refine at_dst 86 ?_); refine wpList_slice_run rfl 22 1 _ rfl _ rfl _ _ (HMK.out _) ?_)
                  | ((with_reducible refine at_dst 87 ?_); refine Lib.wpList_append_run _ rfl _ _ _ _ rfl _ _ rfl rfl _ _ (HAP.out _) ?_))
                go_roundw
                case rel => exact ⟨j + 1, A + 32, _, by omega, by go_num, Lib.hid (by have := hA.out; omega), by go_num, HN3.out, HK3.out⟩
                case measure => simp [intOf]; omega
        · obtain rfl : j = N := by omega
          have hjN : ¬ (j : Int) < ((j : Int)) := by omega
          have HSM := Lib.hid hni.sees
          have HWF := Lib.hid (show (⟨x0, r, (rdI b 5 j).2, []⟩ : Ms).wf from ⟨by show _ ≤ x0; omega, by show x0 ≤ _; omega, hrb.1, hrb.2, (fun x hx => ⟨hni.idl x hx, HRW.out j x hx⟩), (fun x hx => by cases hx)⟩)
          have HMT := Lib.hid hni.ms
          have HRT := HAR
          have HKB : Hid (Kp (fun _ => False) (w.alloc (.cells #[.int .i64 0, .int .i64 0, .slice none 0 0, .slice none 0 0] 25)) wr) := Lib.hid (hkp0 hkp)
          have HKT := HKW
          clear hni hkp tf
          subst hvi
          obtain ⟨t0, t1, t2, t3, _⟩ := HMT.out.cells
          have hby := rmbytes_any HWF.out HSM.out
          unfold MsOut msV at hby
          have HBY := Lib.hid hby
          clear hby
          go_wp2_with fail
          refine HBY.out.mono ?_
          rintro e w8 ⟨v8, rfl, o8, k8⟩
          obtain ⟨a8, c8, rfl⟩ := sees_form o8.sees
          have S1 := run_string_of o8.sees
          have S2 := run_string_of (HS.out.kept ((show Kp (fun _ => False) (w.alloc (.cells #[.int .i64 0, .int .i64 0, .slice none 0 0, .slice none 0 0] 25)) w8 from HKB.out.trans k8 (fun _ _ f => f))) (fun _ _ _ f => f))
          have hq := strOf_inj (msBytes_rng HWF.out) HR.out
          have HR8 := Lib.hid (HRT.out.old k8)
          have HM8 := Lib.hid (HMT.out.old k8)
          have HS8 := Lib.hid (HSM.out.old k8)
          have HK8 := Lib.hid (HKT.out.trans k8 (fun _ _ f => f))
          clear k8 o8
          by_cases hok : okM (⟨x0, r, (rdI b 5 j).2, []⟩ : Ms) = true
          · have hbb : msBytes (⟨x0, r, (rdI b 5 j).2, []⟩ : Ms) = form (⟨x0, r, (rdI b 5 j).2, []⟩ : Ms) := by unfold msBytes; rw [if_pos hok]
            rw [show chk (⟨x0, r, (rdI b 5 j).2, []⟩ : Ms) = 0 by unfold chk; rw [if_pos hok]]
            rw [hbb] at S1 hq ⊢
            by_cases hfb : form (⟨x0, r, (rdI b 5 j).2, []⟩ : Ms) = b
            · have HP := Lib.hid (prs_of_good HWF.out hok hfb)
              rw [decide_eq_true hfb] at hq
              obtain ⟨s0, s1, s2, s3, _⟩ := HM8.out.cells
              clear hok hbb hfb
              go_wp2_with ((with_reducible refine at_store 2 139 ?_); refine wpList_store_row rfl 25 _ _ rfl w.heap.size #[.int .i64 x0, .int .i64 r, .slice a9 j c9, .slice none 0 0] rfl rfl 25 _ HR8.out (infoMs _ _ _ _) rfl (msOne _ _ _ _ _ _ _ _) ?_)
              refine bodyPost_ret (v := .tuple #[msV x0 r (.slice a9 j c9) (.slice none 0 0), .int .i64 0]) (results_cell_tmp' Try.results17 _ _ w.heap.size 25 _ (0, 0) _ _ rfl rfl (setRow_blk HR8.out) Try.underlying25 rfl (infoMs _ _ _ _)) rfl ⟨_, _, by rw [HP.out] <;> rfl, ?_, HK8.out.setRow (fun hlt => by omega) _⟩
              rw [HP.out]
              exact (HS8.out.kept ((Kp.refl (fun y => y = w.heap.size) _).setRow (fun _ => rfl) _) (fun g hg e => by have e' : g = w.heap.size := e; have h1 : w.heap.size + 1 ≤ g := hg.1; omega)).mono (fun g _ hg => by have h1 : w.heap.size + 1 ≤ g := hg.1; omega) HWF.out
            · have HP := Lib.hid (prs_no HR.out (fun m h => hfb (by rw [← HNG.out m h]; exact h.form)))
              rw [decide_eq_false hfb] at hq
              clear hok hbb hfb
              go_wp2_with ((with_reducible refine at_store 2 138 ?_); refine wpList_store_row rfl 25 _ _ rfl w.heap.size #[.int .i64 0, .int .i64 0, .slice none 0 0, .slice none 0 0] rfl rfl 25 _ HR8.out (infoMs _ _ _ _) rfl (msOne _ _ _ _ _ _ _ _) ?_)
              refine bodyPost_ret (v := .tuple #[msV 0 0 (.slice none 0 0) (.slice none 0 0), .int .i64 40]) (results_cell_tmp' Try.results17 _ _ w.heap.size 25 _ (0, 0) _ _ rfl rfl (setRow_blk HR8.out) Try.underlying25 rfl (infoMs _ _ _ _)) rfl ⟨.slice none 0 0, .slice none 0 0, by rw [HP.out] <;> rfl, by rw [HP.out]; exact sees0 _ _, HK8.out.setRow (fun hlt => by omega) _⟩
          · have HP := Lib.hid (prs_no HR.out (fun m h => hok (by rw [← HNG.out m h]; exact h.ok)))
            rw [show chk (⟨x0, r, (rdI b 5 j).2, []⟩ : Ms) = 40 by unfold chk; rw [if_neg hok]]
            clear hok hq
            go_wp2_with ((with_reducible refine at_store 2 138 ?_); refine wpList_store_row rfl 25 _ _ rfl w.heap.size #[.int .i64 0, .int .i64 0, .slice none 0 0, .slice none 0 0] rfl rfl 25 _ HR8.out (infoMs _ _ _ _) rfl (msOne _ _ _ _ _ _ _ _) ?_)
            refine bodyPost_ret (v := .tuple #[msV 0 0 (.slice none 0 0) (.slice none 0 0), .int .i64 40]) (results_cell_tmp' Try.results17 _ _ w.heap.size 25 _ (0, 0) _ _ rfl rfl (setRow_blk HR8.out) Try.underlying25 rfl (infoMs _ _ _ _)) rfl ⟨.slice none 0 0, .slice none 0 0, by rw [HP.out] <;> rfl, by rw [HP.out]; exact sees0 _ _, HK8.out.setRow (fun hlt => by omega) _⟩
    · have hq24 : q3 = 2 ∨ q3 = 4 := hcnt.1 hac
      obtain rfl : q3 = 2 := by omega
      clear hq24
      obtain ⟨z, hz⟩ : ∃ z, z = numAt b 5 := ⟨_, rfl⟩
      have HN5 := Lib.hid ((by have := HNUM.out wc KA.out 5 (by omega); rw [← hz] at this; exact this) : Calls Try.prog 35 #[.slice (some ⟨g, o, none⟩) b.length c0, .int .i64 5] wc fun e w'' => e = .returned (.int .i64 z) ∧ ∃ n, w'' = wc.drewN n)
      have hzb := numAt_bd HR.out 5
      rw [← hz] at hzb
      have HZ := Lib.hid hz
      have HZM := Lib.hid (fun (m : Ms) (h : GoodM b m) => (show z = m.ids.length ∧ m.ids.length ≤ c from by
        have hk := HGK.out m h
        obtain ⟨e1, e2, e3, e4, e5, e6⟩ := good_nm h (show ldOf m.k = .nm a c by rw [hk.1, ← HLD.out])
        exact ⟨by rw [HZ.out]; exact e4 hac, e2⟩))
      clear hz
      go_wp2_with fail
      refine HN5.out.mono ?_
      rintro e wd ⟨rfl, n5, hwd⟩
      have kd : Kp (fun _ => False) wc wd := by rw [hwd]; exact kp_drewN _ _
      replace MA := Lib.hid (MA.out.old kd)
      replace A1 := Lib.hid (A1.out.old kd)
      replace KA := Lib.hid (KA.out.trans kd (fun _ _ f => f))
      have KW1 := Lib.hid (K1.out.trans KA.out (fun _ _ f => f))
      clear hwd kd
      by_cases hz0 : z < 0
      · have HP := Lib.hid (prs_no HR.out (fun m h => by have := HZM.out m h; omega))
        go_wp2_with ((with_reducible refine at_store 2 52 ?_); refine wpList_store_row rfl 25 _ _ rfl w.heap.size #[.int .i64 0, .int .i64 0, .slice none 0 0, .slice none 0 0] rfl rfl 25 _ A1.out (infoMs _ _ _ _) rfl (msOne _ _ _ _ _ _ _ _) ?_)
        refine bodyPost_ret (v := .tuple #[msV 0 0 (.slice none 0 0) (.slice none 0 0), .int .i64 40]) (results_cell_tmp' Try.results17 _ _ w.heap.size 25 _ (0, 0) _ _ rfl rfl (setRow_blk A1.out) Try.underlying25 rfl (infoMs _ _ _ _)) rfl ⟨.slice none 0 0, .slice none 0 0, by rw [HP.out] <;> rfl, by rw [HP.out]; exact sees0 _ _, KW1.out.setRow (fun hlt => by omega) _⟩
      by_cases hz1 : (c : Int) < z
      · have HP := Lib.hid (prs_no HR.out (fun m h => by have := HZM.out m h; omega))
        go_wp2_with ((with_reducible refine at_store 2 52 ?_); refine wpList_store_row rfl 25 _ _ rfl w.heap.size #[.int .i64 0, .int .i64 0, .slice none 0 0, .slice none 0 0] rfl rfl 25 _ A1.out (infoMs _ _ _ _) rfl (msOne _ _ _ _ _ _ _ _) ?_)
        refine bodyPost_ret (v := .tuple #[msV 0 0 (.slice none 0 0) (.slice none 0 0), .int .i64 40]) (results_cell_tmp' Try.results17 _ _ w.heap.size 25 _ (0, 0) _ _ rfl rfl (setRow_blk A1.out) Try.underlying25 rfl (infoMs _ _ _ _)) rfl ⟨.slice none 0 0, .slice none 0 0, by rw [HP.out] <;> rfl, by rw [HP.out]; exact sees0 _ _, KW1.out.setRow (fun hlt => by omega) _⟩
      obtain ⟨N, hN⟩ : ∃ N : Nat, (N : Int) = z := ⟨z.toNat, by omega⟩
      have HNZ := Lib.hid hN
      have HNN : Hid ((N : Int) = numAt b 5) := Lib.hid (hN.trans HZ.out)
      have hN32 : N ≤ 32 := by omega
      clear hN
      have hhd : hdOf a c = 9 := by unfold hdOf; rw [if_neg hac]
      have HHD := Lib.hid hhd
      have HRI := Lib.hid (rdI_at b 9)
      have HRW := Lib.hid (rdI_ok HR.out 9)
      have HNG := Lib.hid (fun (m : Ms) (h : GoodM b m) => (show m = ⟨x0, r, (rdI b 9 N).2, []⟩ from by
        have hk := HGK.out m h
        have hl : ldOf m.k = .nm a c := by rw [hk.1, ← HLD.out]
        obtain ⟨e1, e2, e3, e4, e5, e6⟩ := good_nm h hl
        have hN : N = m.ids.length := by have := e4 hac; rw [← HNN.out] at this; omega
        have e7 := (e6 N (by omega)).1
        rw [HHD.out] at e7
        cases m
        simp only [] at hk hN e3 e7
        rw [e7, hN, List.take_length, hk.1, hk.2, e3]))
      have HEX := Lib.hid (fun (j : Nat) (hj : j < N) (hs : b.length < 9 + 32 * j + 32) (m : Ms) (h : GoodM b m) => (show False from by
        have hk := HGK.out m h
        have hl : ldOf m.k = .nm a c := by rw [hk.1, ← HLD.out]
        obtain ⟨e1, e2, e3, e4, e5, e6⟩ := good_nm h hl
        have hN : N = m.ids.length := by have := e4 hac; rw [← HNN.out] at this; omega
        have e7 := (e6 j (by omega)).2 (by omega)
        rw [HHD.out] at e7
        omega))
      have hNI0 : NI wd (w.heap.size + 1) (w.heap.size + 1) x0 r (.slice none 0 0) 0 (rdI b 9 0).2 := ⟨MA.out, OwnG.nil _ _ _ _, (fun e => by cases e), (fun x hx => by cases hx), rfl, Nat.le_refl _⟩
      have HNI0 := Lib.hid hNI0
      have HID := Lib.hid (fun (x : List Int) (h : x.length = 32) => infoId' h)
      have HKA2 := Lib.hid (show Kp (fun g => w.heap.size + 1 ≤ g) (w.alloc (.cells #[.int .i64 0, .int .i64 0, .slice none 0 0, .slice none 0 0] 25)) wd from KA.out.mono (fun _ _ f => f.elim))
      clear hNI0 hhd
      go_wp2_with fail
      go_loopw [10, 8] (fun i y wr => ∃ (j A : Nat) (vi : Value), j ≤ N ∧ i = .int .i64 j ∧ Hid (A = 9 + 32 * j) ∧ y = .int .i64 (A : Int) ∧ NI wr (w.heap.size + 1) (w.heap.size + 1) x0 r vi j (rdI b 9 j).2 ∧ Kp (fun g => w.heap.size + 1 ≤ g) (w.alloc (.cells #[.int .i64 0, .int .i64 0, .slice none 0 0, .slice none 0 0] 25)) wr) (fun i _ _ => N - (intOf i).toNat)
      case atStart => exact ⟨0, 9, _, by omega, rfl, Lib.hid rfl, rfl, HNI0.out, HKA2.out⟩
      case round =>
        obtain ⟨j, A, vi, hj, rfl, hA, rfl, hni, hkp⟩ := hrel
        have hA2 : A ≤ 2000 := by have := hA.out; omega
        obtain ⟨t0, t1, t2, t3, tf⟩ := hni.ms.cells
        obtain ⟨a9, c9, hvi⟩ := hni.own.form
        have HNI := Lib.hid hni
        have HKP := Lib.hid hkp
        have HAR := Lib.hid (HA0.out.kept hkp (fun e => by omega))
        have HKW := Lib.hid (show Kp (fun _ => False) w wr from K1.out.trans hkp (fun x hx e => by omega))
        by_cases hlt : j < N
        · have hjN : (j : Int) < (z) := by have := HNZ.out; omega
          by_cases hsh : b.length < A + 32
          · have HP := Lib.hid (prs_no HR.out (HEX.out j hlt (by have := hA.out; omega)))
            have hsh' : (b.length : Int) - (A : Int) < 32 := by omega
            clear hni hkp hsh tf
            go_wp2_with ((with_reducible refine at_store 2 70 ?_); refine wpList_store_row rfl 25 _ _ rfl w.heap.size #[.int .i64 0, .int .i64 0, .slice none 0 0, .slice none 0 0] rfl rfl 25 _ HAR.out (infoMs _ _ _ _) rfl (msOne _ _ _ _ _ _ _ _) ?_)
            refine bodyPost_ret (v := .tuple #[msV 0 0 (.slice none 0 0) (.slice none 0 0), .int .i64 40]) (results_cell_tmp' Try.results17 _ _ w.heap.size 25 _ (0, 0) _ _ rfl rfl (setRow_blk HAR.out) Try.underlying25 rfl (infoMs _ _ _ _)) rfl ⟨.slice none 0 0, .slice none 0 0, by rw [HP.out] <;> rfl, by rw [HP.out]; exact sees0 _ _, HKW.out.setRow (fun hlt => by omega) _⟩
          · have hsh' : ¬ (b.length : Int) - (A : Int) < 32 := by omega
            have hAb : A + 32 ≤ b.length := by omega
            obtain ⟨x, hxe⟩ : ∃ x, x = (b.drop A).take 32 := ⟨_, rfl⟩
            have hx32 : x.length = 32 := by rw [hxe, List.length_take, List.length_drop]; omega
            have HXP := Lib.hid (fun (p : Nat) (hp : p < 32) => (show x[p]'(by omega) = b[A + p]'(by omega) by simp only [hxe, List.getElem_take, List.getElem_drop]))
            have HNX := Lib.hid (show (rdI b 9 (j + 1)).2 = (rdI b 9 j).2 ++ [x] by
              show _ ++ [(b.drop (rdI b 9 j).1).take 32] = _
              rw [HRI.out j, ← hA.out, ← hxe])
            have HX32 := Lib.hid hx32
            have HCB := Lib.hid (fun (w' : World) (k : Kp (fun g => w.heap.size + 1 ≤ g) (w.alloc (.cells #[.int .i64 0, .int .i64 0, .slice none 0 0, .slice none 0 0] 25)) w') (q : Nat) (hq : q < b.length) => (HS.out.kept (hkp0 k) (fun _ _ _ f => f)).cellAt hq)
            obtain ⟨wo, rfl⟩ : ∃ wo, wo = wr := ⟨wr, rfl⟩
            obtain ⟨gi, hgi⟩ : ∃ gi, gi = wo.heap.size := ⟨_, rfl⟩
            have hgB : w.heap.size + 1 ≤ gi := by have := hkp.size; rw [World.size_alloc] at this; omega
            have hni' := hni
            clear hni hkp tf
            go_wp2_with fail
            rw [← hgi]
            go_loopw [12] (fun i wr => ∃ p : Nat, p ≤ 32 ∧ i = .int .i64 p ∧ wr.heap[gi]? = some (.cells (U8s (x.take p ++ List.replicate (32 - p) 0)).toArray 37 (0, 0)) ∧ Kp (fun _ => False) wo wr ∧ wr.heap.size = gi + 1) (fun i _ => 32 - (intOf i).toNat)
            case atStart => exact ⟨0, by omega, rfl, by rw [hgi]; exact new_blk wo _, (Kp.refl _ _).alloc _, by rw [hgi]; exact World.size_alloc _ _⟩
            case round =>
              obtain ⟨p, hp, rfl, hrow, hki, hsz⟩ := hrel
              have HGI := Lib.hid hgi
              clear hgi
              by_cases hpt : p < 32
              · have hcb := HCB.out _ (HKP.out.trans hki (fun _ _ f => f.elim)) (A + p) (by omega)
                rw [← HXP.out p hpt] at hcb
                have hxt := HX32.out
                obtain ⟨u, hu⟩ : ∃ u, u = x[p]'(by omega) := ⟨_, rfl⟩
                have hcell0 := cell_blk hrow p
                rw [row_at x p hpt (by omega)] at hcell0
                have hfr0 := free_blk hrow p
                have hset := set_blk hrow p (.int .u8 u)
                rw [row_set x p hpt (by omega) u hu] at hset
                rw [← hu] at hcb
                have kset : Kp (fun _ => False) wo (wr.setCell ⟨gi, p, none⟩ (.int .u8 u)) := hki.setCell (p := ⟨gi, p, none⟩) (fun h => by have h' : gi < wo.heap.size := h; have := HGI.out; omega) _
                have HSET := Lib.hid hset
                have KSET := Lib.hid kset
                have HSZ := Lib.hid (show (wr.setCell ⟨gi, p, none⟩ (.int .u8 u)).heap.size = gi + 1 by rw [World.size_setCell]; exact hsz)
                clear hset kset hu hrow hki hsz
                go_wp2_with fail
                go_roundw
                case rel => exact ⟨p + 1, by omega, by go_num, HSET.out, KSET.out, HSZ.out⟩
                case measure => simp [intOf]; omega
              · obtain rfl : p = 32 := by omega
                rw [List.take_of_length_le (by have := HX32.out; omega), Nat.sub_self, List.replicate_zero, List.append_nil] at hrow
                have hni2 : NI wr (w.heap.size + 1) (w.heap.size + 1) x0 r vi j (rdI b 9 j).2 := ⟨HNI.out.ms.old hki, HNI.out.own.kept hki (fun _ _ f => f), HNI.out.ne, HNI.out.idl, HNI.out.len, HNI.out.base⟩
                obtain ⟨b3, d3, w3, hap3, hm3, hk3, hn3⟩ := hni2.step (x := x) (by omega) HX32.out (by omega)
                rw [← HNX.out] at hn3
                obtain ⟨z0, z1, z2, z3, zf⟩ := hm3.cells
                have zf2 := zf 2
                obtain ⟨i0, i1, i2, i3, _⟩ := hni2.ms.cells
                have HAP := Lib.hid hap3
                have HN3 := Lib.hid hn3
                have HK3 := Lib.hid ((HKP.out.trans hki (fun _ _ f => f.elim)).trans hk3 (fun _ _ f => f))
                have HROW := Lib.hid hrow
                have HMK := Lib.hid (mk1Id x HX32.out)
                subst hvi
                clear hrow hki hsz hni2 hap3 hm3 hk3 hn3 zf hni'
                rw [show ((32 : Nat) : Int) = 32 from rfl]
                go_wp2_with (first
                  | ((with_reducible refine at_dst 85 ?_); refine wpList_load_row rfl 37 _ rfl gi rfl 37 _ (0, 0) _ HROW.out Try.underlying37 rfl (by rw [List.size_toArray]; exact HID.out x HX32.out) ?_)
                  | ((with_reducible refine at_dst 86 ?_); refine wpList_slice_run rfl 22 1 _ rfl _ rfl _ _ (HMK.out _) ?_)
                  | ((with_reducible refine at_dst 87 ?_); refine Lib.wpList_append_run _ rfl _ _ _ _ rfl _ _ rfl rfl _ _ (HAP.out _) ?_))
                go_roundw
                case rel => exact ⟨j + 1, A + 32, _, by omega, by go_num, Lib.hid (by have := hA.out; omega), by go_num, HN3.out, HK3.out⟩
                case measure => simp [intOf]; omega
        · obtain rfl : j = N := by omega
          have hjN : ¬ (j : Int) < (z) := by have := HNZ.out; omega
          have HSM := Lib.hid hni.sees
          have HWF := Lib.hid (show (⟨x0, r, (rdI b 9 j).2, []⟩ : Ms).wf from ⟨by show _ ≤ x0; omega, by show x0 ≤ _; omega, hrb.1, hrb.2, (fun x hx => ⟨hni.idl x hx, HRW.out j x hx⟩), (fun x hx => by cases hx)⟩)
          have HMT := Lib.hid hni.ms
          have HRT := HAR
          have HKB : Hid (Kp (fun _ => False) (w.alloc (.cells #[.int .i64 0, .int .i64 0, .slice none 0 0, .slice none 0 0] 25)) wr) := Lib.hid (hkp0 hkp)
          have HKT := HKW
          clear hni hkp tf
          subst hvi
          obtain ⟨t0, t1, t2, t3, _⟩ := HMT.out.cells
          have hby := rmbytes_any HWF.out HSM.out
          unfold MsOut msV at hby
          have HBY := Lib.hid hby
          clear hby
          go_wp2_with fail
          refine HBY.out.mono ?_
          rintro e w8 ⟨v8, rfl, o8, k8⟩
          obtain ⟨a8, c8, rfl⟩ := sees_form o8.sees
          have S1 := run_string_of o8.sees
          have S2 := run_string_of (HS.out.kept ((show Kp (fun _ => False) (w.alloc (.cells #[.int .i64 0, .int .i64 0, .slice none 0 0, .slice none 0 0] 25)) w8 from HKB.out.trans k8 (fun _ _ f => f))) (fun _ _ _ f => f))
          have hq := strOf_inj (msBytes_rng HWF.out) HR.out
          have HR8 := Lib.hid (HRT.out.old k8)
          have HM8 := Lib.hid (HMT.out.old k8)
          have HS8 := Lib.hid (HSM.out.old k8)
          have HK8 := Lib.hid (HKT.out.trans k8 (fun _ _ f => f))
          clear k8 o8
          by_cases hok : okM (⟨x0, r, (rdI b 9 j).2, []⟩ : Ms) = true
          · have hbb : msBytes (⟨x0, r, (rdI b 9 j).2, []⟩ : Ms) = form (⟨x0, r, (rdI b 9 j).2, []⟩ : Ms) := by unfold msBytes; rw [if_pos hok]
            rw [show chk (⟨x0, r, (rdI b 9 j).2, []⟩ : Ms) = 0 by unfold chk; rw [if_pos hok]]
            rw [hbb] at S1 hq ⊢
            by_cases hfb : form (⟨x0, r, (rdI b 9 j).2, []⟩ : Ms) = b
            · have HP := Lib.hid (prs_of_good HWF.out hok hfb)
              rw [decide_eq_true hfb] at hq
              obtain ⟨s0, s1, s2, s3, _⟩ := HM8.out.cells
              clear hok hbb hfb
              go_wp2_with ((with_reducible refine at_store 2 139 ?_); refine wpList_store_row rfl 25 _ _ rfl w.heap.size #[.int .i64 x0, .int .i64 r, .slice a9 j c9, .slice none 0 0] rfl rfl 25 _ HR8.out (infoMs _ _ _ _) rfl (msOne _ _ _ _ _ _ _ _) ?_)
              refine bodyPost_ret (v := .tuple #[msV x0 r (.slice a9 j c9) (.slice none 0 0), .int .i64 0]) (results_cell_tmp' Try.results17 _ _ w.heap.size 25 _ (0, 0) _ _ rfl rfl (setRow_blk HR8.out) Try.underlying25 rfl (infoMs _ _ _ _)) rfl ⟨_, _, by rw [HP.out] <;> rfl, ?_, HK8.out.setRow (fun hlt => by omega) _⟩
              rw [HP.out]
              exact (HS8.out.kept ((Kp.refl (fun y => y = w.heap.size) _).setRow (fun _ => rfl) _) (fun g hg e => by have e' : g = w.heap.size := e; have h1 : w.heap.size + 1 ≤ g := hg.1; omega)).mono (fun g _ hg => by have h1 : w.heap.size + 1 ≤ g := hg.1; omega) HWF.out
            · have HP := Lib.hid (prs_no HR.out (fun m h => hfb (by rw [← HNG.out m h]; exact h.form)))
              rw [decide_eq_false hfb] at hq
              clear hok hbb hfb
              go_wp2_with ((with_reducible refine at_store 2 138 ?_); refine wpList_store_row rfl 25 _ _ rfl w.heap.size #[.int .i64 0, .int .i64 0, .slice none 0 0, .slice none 0 0] rfl rfl 25 _ HR8.out (infoMs _ _ _ _) rfl (msOne _ _ _ _ _ _ _ _) ?_)
              refine bodyPost_ret (v := .tuple #[msV 0 0 (.slice none 0 0) (.slice none 0 0), .int .i64 40]) (results_cell_tmp' Try.results17 _ _ w.heap.size 25 _ (0, 0) _ _ rfl rfl (setRow_blk HR8.out) Try.underlying25 rfl (infoMs _ _ _ _)) rfl ⟨.slice none 0 0, .slice none 0 0, by rw [HP.out] <;> rfl, by rw [HP.out]; exact sees0 _ _, HK8.out.setRow (fun hlt => by omega) _⟩
          · have HP := Lib.hid (prs_no HR.out (fun m h => hok (by rw [← HNG.out m h]; exact h.ok)))
            rw [show chk (⟨x0, r, (rdI b 9 j).2, []⟩ : Ms) = 40 by unfold chk; rw [if_neg hok]]
            clear hok hq
            go_wp2_with ((with_reducible refine at_store 2 138 ?_); refine wpList_store_row rfl 25 _ _ rfl w.heap.size #[.int .i64 0, .int .i64 0, .slice none 0 0, .slice none 0 0] rfl rfl 25 _ HR8.out (infoMs _ _ _ _) rfl (msOne _ _ _ _ _ _ _ _) ?_)
            refine bodyPost_ret (v := .tuple #[msV 0 0 (.slice none 0 0) (.slice none 0 0), .int .i64 40]) (results_cell_tmp' Try.results17 _ _ w.heap.size 25 _ (0, 0) _ _ rfl rfl (setRow_blk HR8.out) Try.underlying25 rfl (infoMs _ _ _ _)) rfl ⟨.slice none 0 0, .slice none 0 0, by rw [HP.out] <;> rfl, by rw [HP.out]; exact sees0 _ _, HK8.out.setRow (fun hlt => by omega) _⟩
  | bl a c =>
    rw [hL] at HBH HCN HLD HBD
    obtain ⟨g1, g2, g3⟩ := HBH.out.2.2 a c rfl
    obtain ⟨hac0, hcb⟩ := HBD.out.2 a c rfl
    subst g1 g2
    have hq30 : ¬ q3 < 0 := by omega
    have hq33 : ¬ q3 < 3 := by omega
    have hcnt := HCN.out a c (.inr rfl)
    clear hL HQ1 HQ2 HQ3
    by_cases hac : a = c
    · have h2 : (q3 == 2) = false := beq_false (fun e => absurd hac (hcnt.2 (.inl e)))
      have h4 : (q3 == 4) = false := beq_false (fun e => absurd hac (hcnt.2 (.inr e)))
      obtain ⟨N, hN⟩ : ∃ N, N = c := ⟨_, rfl⟩
      rw [← hN]
      have HNN := Lib.hid hN
      have hN32 : N ≤ 32 := by omega
      clear hN
      have hhd : hdOf a c = 5 := by unfold hdOf; rw [if_pos hac]
      have HHD := Lib.hid hhd
      have HRW := Lib.hid (rdR_ok HR.out 5)
      have HNG := Lib.hid (fun (m : Ms) (h : GoodM b m) => (show m = ⟨x0, r, [], (rdR b 5 N).2⟩ from by
        have hk := HGK.out m h
        have hl : ldOf m.k = .bl a c := by rw [hk.1, ← HLD.out]
        obtain ⟨e1, e2, e3, e4, e6⟩ := good_bl h hl
        have hN : N = m.bl.length := by have := HNN.out; omega
        have e7 := (e6 N (by omega)).1
        rw [HHD.out] at e7
        cases m
        simp only [] at hk hN e3 e7
        rw [e7, hN, List.take_length, hk.1, hk.2, e3]))
      have HEX := Lib.hid (fun (j : Nat) (hj : j < N) (m : Ms) (h : GoodM b m) => (show 0 ≤ numAt b (rdR b 5 j).1 ∧ ((rdR b 5 j).1 : Int) + 4 + numAt b (rdR b 5 j).1 ≤ b.length from by
        have hk := HGK.out m h
        have hl : ldOf m.k = .bl a c := by rw [hk.1, ← HLD.out]
        obtain ⟨e1, e2, e3, e4, e6⟩ := good_bl h hl
        have hN : N = m.bl.length := by have := HNN.out; omega
        have e7 := (e6 j (by omega)).2.2.2 (by omega)
        rw [HHD.out] at e7
        omega))
      have hNI0 : RB wc (w.heap.size + 1) (w.heap.size + 1) x0 r (.slice none 0 0) (.slice none 0 0) [] 0 (rdR b 5 0).2 := ⟨MA.out, ⟨[], OwnG.nil _ _ _ _, (fun j x hx => by cases hx)⟩, (fun e => by cases e), .inl ⟨rfl, rfl⟩, rfl, (fun x hx => by cases hx), Nat.le_refl _⟩
      have HNI0 := Lib.hid hNI0
      have HKA2 := Lib.hid (show Kp (fun g => w.heap.size + 1 ≤ g) (w.alloc (.cells #[.int .i64 0, .int .i64 0, .slice none 0 0, .slice none 0 0] 25)) wc from KA.out.mono (fun _ _ f => f.elim))
      have h9 : 5 ≤ b.length := by omega
      clear hNI0 hhd
      go_wp2_with fail
      go_loopw [10, 8] (fun i y wr => ∃ (j A : Nat) (vb : Value), j ≤ N ∧ i = .int .i64 j ∧ Hid (A = (rdR b 5 j).1) ∧ A ≤ b.length ∧ y = .int .i64 (A : Int) ∧ RB wr (w.heap.size + 1) (w.heap.size + 1) x0 r (.slice none 0 0) vb [] j (rdR b 5 j).2 ∧ Kp (fun g => w.heap.size + 1 ≤ g) (w.alloc (.cells #[.int .i64 0, .int .i64 0, .slice none 0 0, .slice none 0 0] 25)) wr) (fun i _ _ => N - (intOf i).toNat)
      case atStart => exact ⟨0, 5, _, by omega, rfl, Lib.hid rfl, h9, rfl, HNI0.out, HKA2.out⟩
      case round =>
        obtain ⟨j, A, vb, hj, rfl, hA, hAl, rfl, hni, hkp⟩ := hrel
        obtain ⟨t0, t1, t2, t3, tf⟩ := hni.ms.cells
        obtain ⟨us, hown, _⟩ := hni.own
        obtain ⟨a9, c9, hvi⟩ := hown.form
        have HNI := Lib.hid hni
        have HKP := Lib.hid hkp
        have HAR := Lib.hid (HA0.out.kept hkp (fun e => by omega))
        have HKW := Lib.hid (show Kp (fun _ => False) w wr from K1.out.trans hkp (fun x hx e => by omega))
        by_cases hlt : j < N
        · have hjN : (j : Int) < ((N : Int)) := by omega
          obtain ⟨y, hy⟩ : ∃ y, y = numAt b A := ⟨_, rfl⟩
          have hyb := numAt_bd HR.out A
          have HNA := Lib.hid ((by have := HNUM.out wr (hkp0 hkp) A (by omega); rw [← hy] at this; exact this) : Calls Try.prog 35 #[.slice (some ⟨g, o, none⟩) b.length c0, .int .i64 (A : Int)] wr fun e w'' => e = .returned (.int .i64 y) ∧ ∃ n, w'' = wr.drewN n)
          rw [← hy] at hyb
          have HY := Lib.hid hy
          have HEY := Lib.hid (fun (m : Ms) (h : GoodM b m) => (by have := HEX.out j hlt m h; rw [← hA.out, ← HY.out] at this; exact this : 0 ≤ y ∧ (A : Int) + 4 + y ≤ b.length))
          clear hy hni hkp tf hown
          go_wp2_with fail
          refine HNA.out.mono ?_
          rintro e w5 ⟨rfl, n5, hw5⟩
          have kd : Kp (fun _ => False) wr w5 := by rw [hw5]; exact kp_drewN _ _
          have HA5 := Lib.hid (HAR.out.old kd)
          have HK5 := Lib.hid (HKW.out.trans kd (fun _ _ f => f))
          have HN5 := Lib.hid (HNI.out.old kd)
          have HP5 := Lib.hid (HKP.out.trans kd (fun _ _ f => f.elim))
          clear hw5 kd t0 t1 t2 t3
          by_cases hy0 : y < 0
          · have HP := Lib.hid (prs_no HR.out (fun m h => by have := HEY.out m h; omega))
            go_wp2_with ((with_reducible refine at_store 2 105 ?_); refine wpList_store_row rfl 25 _ _ rfl w.heap.size #[.int .i64 0, .int .i64 0, .slice none 0 0, .slice none 0 0] rfl rfl 25 _ HA5.out (infoMs _ _ _ _) rfl (msOne _ _ _ _ _ _ _ _) ?_)
            refine bodyPost_ret (v := .tuple #[msV 0 0 (.slice none 0 0) (.slice none 0 0), .int .i64 40]) (results_cell_tmp' Try.results17 _ _ w.heap.size 25 _ (0, 0) _ _ rfl rfl (setRow_blk HA5.out) Try.underlying25 rfl (infoMs _ _ _ _)) rfl ⟨.slice none 0 0, .slice none 0 0, by rw [HP.out] <;> rfl, by rw [HP.out]; exact sees0 _ _, HK5.out.setRow (fun hlt => by omega) _⟩
          by_cases hy1 : (b.length : Int) - (A : Int) - 4 < y
          · have HP := Lib.hid (prs_no HR.out (fun m h => by have := HEY.out m h; omega))
            go_wp2_with ((with_reducible refine at_store 2 105 ?_); refine wpList_store_row rfl 25 _ _ rfl w.heap.size #[.int .i64 0, .int .i64 0, .slice none 0 0, .slice none 0 0] rfl rfl 25 _ HA5.out (infoMs _ _ _ _) rfl (msOne _ _ _ _ _ _ _ _) ?_)
            refine bodyPost_ret (v := .tuple #[msV 0 0 (.slice none 0 0) (.slice none 0 0), .int .i64 40]) (results_cell_tmp' Try.results17 _ _ w.heap.size 25 _ (0, 0) _ _ rfl rfl (setRow_blk HA5.out) Try.underlying25 rfl (infoMs _ _ _ _)) rfl ⟨.slice none 0 0, .slice none 0 0, by rw [HP.out] <;> rfl, by rw [HP.out]; exact sees0 _ _, HK5.out.setRow (fun hlt => by omega) _⟩
          obtain ⟨Y, hY⟩ : ∃ Y : Nat, (Y : Int) = y := ⟨y.toNat, by omega⟩
          have HYY := Lib.hid hY
          have hYl : A + 4 + Y ≤ b.length := by omega
          have hsl := (HS.out.kept (hkp0 HP5.out) (fun _ _ _ f => f)).kept ((Kp.refl (fun _ => False) w5).drew) (fun _ _ _ f => f)
          obtain ⟨x, hxe⟩ : ∃ x, x = (b.drop (A + 4)).take Y := ⟨_, rfl⟩
          obtain ⟨o2, hs2, hif⟩ : ∃ o2, Sees w5.drew (.slice (some ⟨g, o2, none⟩) Y (c0 - (A + 4))) x ∧ (if c0 = ((A : Int) + 4).toNat then some (⟨g, o, none⟩ : Addr) else some ⟨g, o + ((A : Int) + 4).toNat, none⟩) = some ⟨g, o2, none⟩ := by
            have eA : ((A : Int) + 4).toNat = A + 4 := by omega
            rw [eA]
            by_cases hc : c0 = A + 4
            · refine ⟨o, ?_, by rw [if_pos hc]⟩
              obtain rfl : Y = 0 := by omega
              rw [hxe, List.take_zero]
              exact sees_empty _ _ (by omega)
            · refine ⟨o + (A + 4), ?_, by rw [if_neg hc]⟩
              have hs1 := sees_drop hsl (A + 4) (by omega)
              rw [← List.length_drop] at hs1
              rw [hxe]
              exact sees_take hs1 Y (by rw [List.length_drop]; omega)
          have u1 : (0 : Int) ≤ (A : Int) + 4 + Y := by omega
          have u2 : (A : Int) + 4 + Y ≤ c0 := by omega
          have u3' : (0 : Int) ≤ (A : Int) + 4 := by omega
          have u4 : (A : Int) + 4 ≤ max ((A : Int) + 4 + Y) 0 := by omega
          have u5 : ((A : Int) + 4 + Y).toNat - ((A : Int) + 4).toNat = Y := by omega
          have u6 : c0 - ((A : Int) + 4).toNat = c0 - (A + 4) := by omega
          have hxl : x.length = Y := by rw [hxe, List.length_take, List.length_drop]; omega
          have hB5 : w.heap.size + 1 ≤ w5.heap.size := by have := HP5.out.size; rw [World.size_alloc] at this; exact this
          obtain ⟨a1, c1, w6, b3, d3, w7, hap1, hap2, hm6, hm7, hk7, k6, hn7⟩ := (HN5.out.old ((Kp.refl (fun _ => False) w5).drew)).step hB5 hs2 (by omega) (by omega)
          have HNX := Lib.hid (show (rdR b 5 (j + 1)).2 = (rdR b 5 j).2 ++ [x] ∧ (rdR b 5 (j + 1)).1 = A + 4 + Y from by
            have e0 : (numAt b (rdR b 5 j).1).toNat = Y := by rw [← hA.out, ← HY.out]; omega
            exact ⟨by show _ ++ [(b.drop ((rdR b 5 j).1 + 4)).take (numAt b (rdR b 5 j).1).toNat] = _; rw [e0, ← hA.out, ← hxe], by show (rdR b 5 j).1 + 4 + (numAt b (rdR b 5 j).1).toNat = _; rw [e0, ← hA.out]⟩)
          rw [← HNX.out.1] at hn7
          rw [hxl] at hap1 hap2
          obtain ⟨z0, z1, z2, z3, _⟩ := HN5.out.ms.cells
          obtain ⟨s0, s1, s2, s3, _⟩ := hm6.cells
          obtain ⟨p0, p1, p2, p3, pf⟩ := hm7.cells
          have pf3 := pf 3
          have s3a : (w6.alloc (.cells #[.slice a1 Y c1] 29)).cell? ⟨w.heap.size + 1, 3, none⟩ = some vb := by rw [((Kp.refl (fun _ => False) w6).alloc _).cell (lt_of_cell s3) (fun f => f)]; exact s3
          have e1 : IntKind.i64.wrap ((A : Int) + 4) = A + 4 := IntWalk.i64_in _ (by omega)
          have e2 : IntKind.i64.wrap ((A : Int) + 4 + Y) = A + 4 + Y := IntWalk.i64_in _ (by omega)
          have HAP1 := Lib.hid hap1
          have HAP2 := Lib.hid hap2
          have HN7 := Lib.hid hn7
          have HK7 := Lib.hid ((HP5.out.drew).trans hk7 (fun _ _ f => f))
          subst hvi
          subst hY
          clear hsl hs2 hxe hap1 hap2 hm6 hm7 hk7 k6 hn7 pf hxl
          go_upto_region 28 with fail
          refine wp_region_any (by kernel_rfl) ?_
          try (change wpAny _ _ _ _ _ _ _ (World.drew _))
          refine wpAny_take (i := 0) (v := ?_) rfl (by kernel_rfl) (by kernel_rfl) (by kernel_rfl) (fun _ _ _ h => h) (Or.inl ⟨by rfl, ?_⟩) ?_
          rotate_left
          · intro w; go_simp; try with_reducible rfl
          try simp only [Act.put, List.getElem_toArray, List.getElem_cons_zero, List.setIfInBounds_toArray, List.set_cons_zero, List.set_cons_succ]
          refine wpAny_take (i := 2) (v := ?_) rfl (by kernel_rfl) (by kernel_rfl) (by kernel_rfl) (fun _ _ _ h => h) (Or.inl ⟨by rfl, ?_⟩) ?_
          rotate_left
          · intro w; go_simp; try with_reducible rfl
          try simp only [Act.put, List.getElem_toArray, List.getElem_cons_succ, List.getElem_cons_zero, List.setIfInBounds_toArray, List.set_cons_zero, List.set_cons_succ]
          refine wpAny_take (i := 3) (v := ?_) rfl (by kernel_rfl) (by kernel_rfl) (by kernel_rfl) (fun _ _ _ h => h) (Or.inl ⟨by rfl, ?_⟩) ?_
          rotate_left
          · intro w; go_simp; try with_reducible rfl
          try simp only [Act.put, List.getElem_toArray, List.getElem_cons_succ, List.getElem_cons_zero, List.setIfInBounds_toArray, List.set_cons_zero, List.set_cons_succ]
          refine wpAny_take (i := 4) (v := ?_) rfl (by kernel_rfl) (by kernel_rfl) (by kernel_rfl) (fun _ _ _ h => h) (Or.inl ⟨by rfl, ?_⟩) ?_
          rotate_left
          · intro w; go_simp; try with_reducible rfl
          try simp only [Act.put, List.getElem_toArray, List.getElem_cons_succ, List.getElem_cons_zero, List.setIfInBounds_toArray, List.set_cons_zero, List.set_cons_succ]
          refine wpAny_take (i := 5) (v := ?_) rfl (by kernel_rfl) (by kernel_rfl) (by kernel_rfl) (fun _ _ _ h => h) (Or.inl ⟨by rfl, ?_⟩) ?_
          rotate_left
          · intro w; go_simp; try with_reducible rfl
          try simp only [Act.put, List.getElem_toArray, List.getElem_cons_succ, List.getElem_cons_zero, List.setIfInBounds_toArray, List.set_cons_zero, List.set_cons_succ]
          refine wpAny_take (i := 6) (v := ?_) rfl (by kernel_rfl) (by kernel_rfl) (by kernel_rfl) (fun _ _ _ h => h) (Or.inl ⟨by rfl, ?_⟩) ?_
          rotate_left
          · intro w; go_simp; try with_reducible rfl
          try simp only [Act.put, List.getElem_toArray, List.getElem_cons_succ, List.getElem_cons_zero, List.setIfInBounds_toArray, List.set_cons_zero, List.set_cons_succ]
          refine wpAny_take (i := 7) (v := ?_) rfl (by kernel_rfl) (by kernel_rfl) (by kernel_rfl) (fun _ _ _ h => h) (Or.inl ⟨by rfl, ?_⟩) ?_
          rotate_left
          · intro w; go_simp; try with_reducible rfl
          try simp only [Act.put, List.getElem_toArray, List.getElem_cons_succ, List.getElem_cons_zero, List.setIfInBounds_toArray, List.set_cons_zero, List.set_cons_succ]
          refine wpAny_take (i := 8) (v := ?_) rfl (by kernel_rfl) (by kernel_rfl) (by kernel_rfl) (fun _ _ _ h => h) (Or.inl ⟨by rfl, ?_⟩) ?_
          rotate_left
          · intro w; go_simp; try with_reducible rfl
          try simp only [Act.put, List.getElem_toArray, List.getElem_cons_succ, List.getElem_cons_zero, List.setIfInBounds_toArray, List.set_cons_zero, List.set_cons_succ]
          refine wpAny_ready (rs := [1, 9]) (by kernel_rfl) (by simp) ?_
          refine AllReady.cons rfl (fun K hK => ?_) (AllReady.cons rfl (fun K hK => ?_) AllReady.nil)
          · skip
            go_simp
            (try (refine hK _ _ ?_; clear hK K))
            try simp only [Act.put, List.getElem_toArray, List.getElem_cons_succ, List.getElem_cons_zero, List.setIfInBounds_toArray, List.set_cons_zero, List.set_cons_succ]
            refine wpAny_ready (rs := [9]) (by kernel_rfl) (by simp) ?_
            refine AllReady.cons rfl (fun K hK => ?_) AllReady.nil
            go_simp
            (try (refine hK _ _ ?_; clear hK K))
            try simp only [Act.put, List.getElem_toArray, List.getElem_cons_succ, List.getElem_cons_zero, List.setIfInBounds_toArray, List.set_cons_zero, List.set_cons_succ]
            refine wpAny_ready (rs := [10]) (by kernel_rfl) (by simp) ?_
            refine AllReady.cons rfl (fun K hK => ?_) AllReady.nil
            refine step_append_run rfl _ _ _ _ rfl _ _ rfl rfl _ _ (HAP1.out _) ?_
            (try (refine hK _ _ ?_; clear hK K))
            try simp only [Act.put, List.getElem_toArray, List.getElem_cons_succ, List.getElem_cons_zero, List.setIfInBounds_toArray, List.set_cons_zero, List.set_cons_succ]
            refine wpAny_ready (rs := [11]) (by kernel_rfl) (by simp) ?_
            refine AllReady.cons rfl (fun K hK => ?_) AllReady.nil
            go_simp
            (try (refine hK _ _ ?_; clear hK K))
            try simp only [Act.put, List.getElem_toArray, List.getElem_cons_succ, List.getElem_cons_zero, List.setIfInBounds_toArray, List.set_cons_zero, List.set_cons_succ]
            refine wpAny_ready (rs := [12]) (by kernel_rfl) (by simp) ?_
            refine AllReady.cons rfl (fun K hK => ?_) AllReady.nil
            refine step_append_run rfl _ _ _ _ rfl _ _ rfl rfl _ _ (HAP2.out _) ?_
            (try (refine hK _ _ ?_; clear hK K))
            try simp only [Act.put, List.getElem_toArray, List.getElem_cons_succ, List.getElem_cons_zero, List.setIfInBounds_toArray, List.set_cons_zero, List.set_cons_succ]
            refine wpAny_take (i := 13) (v := ?_) rfl (by kernel_rfl) (by kernel_rfl) (by kernel_rfl) (fun _ _ _ h => h) (Or.inl ⟨by rfl, ?_⟩) ?_
            rotate_left
            · intro w; go_simp; try with_reducible rfl
            try simp only [Act.put, List.getElem_toArray, List.getElem_cons_succ, List.getElem_cons_zero, List.setIfInBounds_toArray, List.set_cons_zero, List.set_cons_succ]
            refine wpAny_ready (rs := [14]) (by kernel_rfl) (by simp) ?_
            refine AllReady.cons rfl (fun K hK => ?_) AllReady.nil
            go_simp
            (try (refine hK _ _ ?_; clear hK K))
            try simp only [Act.put, List.getElem_toArray, List.getElem_cons_succ, List.getElem_cons_zero, List.setIfInBounds_toArray, List.set_cons_zero, List.set_cons_succ]
            refine wpAny_done (by kernel_rfl) ?_ _
            go_wp2_with fail
            go_roundw
            case rel => exact ⟨j + 1, A + 4 + Y, _, by omega, by go_num, Lib.hid HNX.out.2.symm, hYl, by go_num, HN7.out, HK7.out⟩
            case measure => simp [intOf]; omega
          · skip
            go_simp
            (try (refine hK _ _ ?_; clear hK K))
            try simp only [Act.put, List.getElem_toArray, List.getElem_cons_succ, List.getElem_cons_zero, List.setIfInBounds_toArray, List.set_cons_zero, List.set_cons_succ]
            refine wpAny_ready (rs := [1, 10]) (by kernel_rfl) (by simp) ?_
            refine AllReady.cons rfl (fun K hK => ?_) (AllReady.cons rfl (fun K hK => ?_) AllReady.nil)
            · skip
              go_simp
              (try (refine hK _ _ ?_; clear hK K))
              try simp only [Act.put, List.getElem_toArray, List.getElem_cons_succ, List.getElem_cons_zero, List.setIfInBounds_toArray, List.set_cons_zero, List.set_cons_succ]
              refine wpAny_ready (rs := [10]) (by kernel_rfl) (by simp) ?_
              refine AllReady.cons rfl (fun K hK => ?_) AllReady.nil
              refine step_append_run rfl _ _ _ _ rfl _ _ rfl rfl _ _ (HAP1.out _) ?_
              (try (refine hK _ _ ?_; clear hK K))
              try simp only [Act.put, List.getElem_toArray, List.getElem_cons_succ, List.getElem_cons_zero, List.setIfInBounds_toArray, List.set_cons_zero, List.set_cons_succ]
              refine wpAny_ready (rs := [11]) (by kernel_rfl) (by simp) ?_
              refine AllReady.cons rfl (fun K hK => ?_) AllReady.nil
              go_simp
              (try (refine hK _ _ ?_; clear hK K))
              try simp only [Act.put, List.getElem_toArray, List.getElem_cons_succ, List.getElem_cons_zero, List.setIfInBounds_toArray, List.set_cons_zero, List.set_cons_succ]
              refine wpAny_ready (rs := [12]) (by kernel_rfl) (by simp) ?_
              refine AllReady.cons rfl (fun K hK => ?_) AllReady.nil
              refine step_append_run rfl _ _ _ _ rfl _ _ rfl rfl _ _ (HAP2.out _) ?_
              (try (refine hK _ _ ?_; clear hK K))
              try simp only [Act.put, List.getElem_toArray, List.getElem_cons_succ, List.getElem_cons_zero, List.setIfInBounds_toArray, List.set_cons_zero, List.set_cons_succ]
              refine wpAny_take (i := 13) (v := ?_) rfl (by kernel_rfl) (by kernel_rfl) (by kernel_rfl) (fun _ _ _ h => h) (Or.inl ⟨by rfl, ?_⟩) ?_
              rotate_left
              · intro w; go_simp; try with_reducible rfl
              try simp only [Act.put, List.getElem_toArray, List.getElem_cons_succ, List.getElem_cons_zero, List.setIfInBounds_toArray, List.set_cons_zero, List.set_cons_succ]
              refine wpAny_ready (rs := [14]) (by kernel_rfl) (by simp) ?_
              refine AllReady.cons rfl (fun K hK => ?_) AllReady.nil
              go_simp
              (try (refine hK _ _ ?_; clear hK K))
              try simp only [Act.put, List.getElem_toArray, List.getElem_cons_succ, List.getElem_cons_zero, List.setIfInBounds_toArray, List.set_cons_zero, List.set_cons_succ]
              refine wpAny_done (by kernel_rfl) ?_ _
              go_wp2_with fail
              go_roundw
              case rel => exact ⟨j + 1, A + 4 + Y, _, by omega, by go_num, Lib.hid HNX.out.2.symm, hYl, by go_num, HN7.out, HK7.out⟩
              case measure => simp [intOf]; omega
            · skip
              refine step_append_run rfl _ _ _ _ rfl _ _ rfl rfl _ _ (HAP1.out _) ?_
              (try (refine hK _ _ ?_; clear hK K))
              try simp only [Act.put, List.getElem_toArray, List.getElem_cons_succ, List.getElem_cons_zero, List.setIfInBounds_toArray, List.set_cons_zero, List.set_cons_succ]
              refine wpAny_ready (rs := [1, 11]) (by kernel_rfl) (by simp) ?_
              refine AllReady.cons rfl (fun K hK => ?_) (AllReady.cons rfl (fun K hK => ?_) AllReady.nil)
              · skip
                go_simp
                (try (refine hK _ _ ?_; clear hK K))
                try simp only [Act.put, List.getElem_toArray, List.getElem_cons_succ, List.getElem_cons_zero, List.setIfInBounds_toArray, List.set_cons_zero, List.set_cons_succ]
                refine wpAny_ready (rs := [11]) (by kernel_rfl) (by simp) ?_
                refine AllReady.cons rfl (fun K hK => ?_) AllReady.nil
                go_simp
                (try (refine hK _ _ ?_; clear hK K))
                try simp only [Act.put, List.getElem_toArray, List.getElem_cons_succ, List.getElem_cons_zero, List.setIfInBounds_toArray, List.set_cons_zero, List.set_cons_succ]
                refine wpAny_ready (rs := [12]) (by kernel_rfl) (by simp) ?_
                refine AllReady.cons rfl (fun K hK => ?_) AllReady.nil
                refine step_append_run rfl _ _ _ _ rfl _ _ rfl rfl _ _ (HAP2.out _) ?_
                (try (refine hK _ _ ?_; clear hK K))
                try simp only [Act.put, List.getElem_toArray, List.getElem_cons_succ, List.getElem_cons_zero, List.setIfInBounds_toArray, List.set_cons_zero, List.set_cons_succ]
                refine wpAny_take (i := 13) (v := ?_) rfl (by kernel_rfl) (by kernel_rfl) (by kernel_rfl) (fun _ _ _ h => h) (Or.inl ⟨by rfl, ?_⟩) ?_
                rotate_left
                · intro w; go_simp; try with_reducible rfl
                try simp only [Act.put, List.getElem_toArray, List.getElem_cons_succ, List.getElem_cons_zero, List.setIfInBounds_toArray, List.set_cons_zero, List.set_cons_succ]
                refine wpAny_ready (rs := [14]) (by kernel_rfl) (by simp) ?_
                refine AllReady.cons rfl (fun K hK => ?_) AllReady.nil
                go_simp
                (try (refine hK _ _ ?_; clear hK K))
                try simp only [Act.put, List.getElem_toArray, List.getElem_cons_succ, List.getElem_cons_zero, List.setIfInBounds_toArray, List.set_cons_zero, List.set_cons_succ]
                refine wpAny_done (by kernel_rfl) ?_ _
                go_wp2_with fail
                go_roundw
                case rel => exact ⟨j + 1, A + 4 + Y, _, by omega, by go_num, Lib.hid HNX.out.2.symm, hYl, by go_num, HN7.out, HK7.out⟩
                case measure => simp [intOf]; omega
              · skip
                go_simp
                (try (refine hK _ _ ?_; clear hK K))
                try simp only [Act.put, List.getElem_toArray, List.getElem_cons_succ, List.getElem_cons_zero, List.setIfInBounds_toArray, List.set_cons_zero, List.set_cons_succ]
                refine wpAny_ready (rs := [1]) (by kernel_rfl) (by simp) ?_
                refine AllReady.cons rfl (fun K hK => ?_) AllReady.nil
                go_simp
                (try (refine hK _ _ ?_; clear hK K))
                try simp only [Act.put, List.getElem_toArray, List.getElem_cons_succ, List.getElem_cons_zero, List.setIfInBounds_toArray, List.set_cons_zero, List.set_cons_succ]
                refine wpAny_ready (rs := [12]) (by kernel_rfl) (by simp) ?_
                refine AllReady.cons rfl (fun K hK => ?_) AllReady.nil
                refine step_append_run rfl _ _ _ _ rfl _ _ rfl rfl _ _ (HAP2.out _) ?_
                (try (refine hK _ _ ?_; clear hK K))
                try simp only [Act.put, List.getElem_toArray, List.getElem_cons_succ, List.getElem_cons_zero, List.setIfInBounds_toArray, List.set_cons_zero, List.set_cons_succ]
                refine wpAny_take (i := 13) (v := ?_) rfl (by kernel_rfl) (by kernel_rfl) (by kernel_rfl) (fun _ _ _ h => h) (Or.inl ⟨by rfl, ?_⟩) ?_
                rotate_left
                · intro w; go_simp; try with_reducible rfl
                try simp only [Act.put, List.getElem_toArray, List.getElem_cons_succ, List.getElem_cons_zero, List.setIfInBounds_toArray, List.set_cons_zero, List.set_cons_succ]
                refine wpAny_ready (rs := [14]) (by kernel_rfl) (by simp) ?_
                refine AllReady.cons rfl (fun K hK => ?_) AllReady.nil
                go_simp
                (try (refine hK _ _ ?_; clear hK K))
                try simp only [Act.put, List.getElem_toArray, List.getElem_cons_succ, List.getElem_cons_zero, List.setIfInBounds_toArray, List.set_cons_zero, List.set_cons_succ]
                refine wpAny_done (by kernel_rfl) ?_ _
                go_wp2_with fail
                go_roundw
                case rel => exact ⟨j + 1, A + 4 + Y, _, by omega, by go_num, Lib.hid HNX.out.2.symm, hYl, by go_num, HN7.out, HK7.out⟩
                case measure => simp [intOf]; omega
        · obtain rfl : j = N := by omega
          have hjN : ¬ (j : Int) < ((j : Int)) := by omega
          have HSM := Lib.hid hni.sees
          have HWF := Lib.hid (show (⟨x0, r, [], (rdR b 5 j).2⟩ : Ms).wf from ⟨by show _ ≤ x0; omega, by show x0 ≤ _; omega, hrb.1, hrb.2, (fun x hx => by cases hx), (fun x hx => HRW.out j x hx)⟩)
          have HMT := Lib.hid hni.ms
          have HRT := HAR
          have HKB : Hid (Kp (fun _ => False) (w.alloc (.cells #[.int .i64 0, .int .i64 0, .slice none 0 0, .slice none 0 0] 25)) wr) := Lib.hid (hkp0 hkp)
          have HKT := HKW
          clear hni hkp tf hown
          subst hvi
          obtain ⟨t0, t1, t2, t3, _⟩ := HMT.out.cells
          have hby := rmbytes_any HWF.out HSM.out
          unfold MsOut msV at hby
          have HBY := Lib.hid hby
          clear hby
          go_wp2_with fail
          refine HBY.out.mono ?_
          rintro e w8 ⟨v8, rfl, o8, k8⟩
          obtain ⟨a8, c8, rfl⟩ := sees_form o8.sees
          have S1 := run_string_of o8.sees
          have S2 := run_string_of (HS.out.kept ((show Kp (fun _ => False) (w.alloc (.cells #[.int .i64 0, .int .i64 0, .slice none 0 0, .slice none 0 0] 25)) w8 from HKB.out.trans k8 (fun _ _ f => f))) (fun _ _ _ f => f))
          have hq := strOf_inj (msBytes_rng HWF.out) HR.out
          have HR8 := Lib.hid (HRT.out.old k8)
          have HM8 := Lib.hid (HMT.out.old k8)
          have HS8 := Lib.hid (HSM.out.old k8)
          have HK8 := Lib.hid (HKT.out.trans k8 (fun _ _ f => f))
          clear k8 o8
          by_cases hok : okM (⟨x0, r, [], (rdR b 5 j).2⟩ : Ms) = true
          · have hbb : msBytes (⟨x0, r, [], (rdR b 5 j).2⟩ : Ms) = form (⟨x0, r, [], (rdR b 5 j).2⟩ : Ms) := by unfold msBytes; rw [if_pos hok]
            rw [show chk (⟨x0, r, [], (rdR b 5 j).2⟩ : Ms) = 0 by unfold chk; rw [if_pos hok]]
            rw [hbb] at S1 hq ⊢
            by_cases hfb : form (⟨x0, r, [], (rdR b 5 j).2⟩ : Ms) = b
            · have HP := Lib.hid (prs_of_good HWF.out hok hfb)
              rw [decide_eq_true hfb] at hq
              obtain ⟨s0, s1, s2, s3, _⟩ := HM8.out.cells
              clear hok hbb hfb
              go_wp2_with ((with_reducible refine at_store 2 139 ?_); refine wpList_store_row rfl 25 _ _ rfl w.heap.size #[.int .i64 x0, .int .i64 r, .slice none 0 0, .slice a9 j c9] rfl rfl 25 _ HR8.out (infoMs _ _ _ _) rfl (msOne _ _ _ _ _ _ _ _) ?_)
              refine bodyPost_ret (v := .tuple #[msV x0 r (.slice none 0 0) (.slice a9 j c9), .int .i64 0]) (results_cell_tmp' Try.results17 _ _ w.heap.size 25 _ (0, 0) _ _ rfl rfl (setRow_blk HR8.out) Try.underlying25 rfl (infoMs _ _ _ _)) rfl ⟨_, _, by rw [HP.out] <;> rfl, ?_, HK8.out.setRow (fun hlt => by omega) _⟩
              rw [HP.out]
              exact (HS8.out.kept ((Kp.refl (fun y => y = w.heap.size) _).setRow (fun _ => rfl) _) (fun g hg e => by have e' : g = w.heap.size := e; have h1 : w.heap.size + 1 ≤ g := hg.1; omega)).mono (fun g _ hg => by have h1 : w.heap.size + 1 ≤ g := hg.1; omega) HWF.out
            · have HP := Lib.hid (prs_no HR.out (fun m h => hfb (by rw [← HNG.out m h]; exact h.form)))
              rw [decide_eq_false hfb] at hq
              clear hok hbb hfb
              go_wp2_with ((with_reducible refine at_store 2 138 ?_); refine wpList_store_row rfl 25 _ _ rfl w.heap.size #[.int .i64 0, .int .i64 0, .slice none 0 0, .slice none 0 0] rfl rfl 25 _ HR8.out (infoMs _ _ _ _) rfl (msOne _ _ _ _ _ _ _ _) ?_)
              refine bodyPost_ret (v := .tuple #[msV 0 0 (.slice none 0 0) (.slice none 0 0), .int .i64 40]) (results_cell_tmp' Try.results17 _ _ w.heap.size 25 _ (0, 0) _ _ rfl rfl (setRow_blk HR8.out) Try.underlying25 rfl (infoMs _ _ _ _)) rfl ⟨.slice none 0 0, .slice none 0 0, by rw [HP.out] <;> rfl, by rw [HP.out]; exact sees0 _ _, HK8.out.setRow (fun hlt => by omega) _⟩
          · have HP := Lib.hid (prs_no HR.out (fun m h => hok (by rw [← HNG.out m h]; exact h.ok)))
            rw [show chk (⟨x0, r, [], (rdR b 5 j).2⟩ : Ms) = 40 by unfold chk; rw [if_neg hok]]
            clear hok hq
            go_wp2_with ((with_reducible refine at_store 2 138 ?_); refine wpList_store_row rfl 25 _ _ rfl w.heap.size #[.int .i64 0, .int .i64 0, .slice none 0 0, .slice none 0 0] rfl rfl 25 _ HR8.out (infoMs _ _ _ _) rfl (msOne _ _ _ _ _ _ _ _) ?_)
            refine bodyPost_ret (v := .tuple #[msV 0 0 (.slice none 0 0) (.slice none 0 0), .int .i64 40]) (results_cell_tmp' Try.results17 _ _ w.heap.size 25 _ (0, 0) _ _ rfl rfl (setRow_blk HR8.out) Try.underlying25 rfl (infoMs _ _ _ _)) rfl ⟨.slice none 0 0, .slice none 0 0, by rw [HP.out] <;> rfl, by rw [HP.out]; exact sees0 _ _, HK8.out.setRow (fun hlt => by omega) _⟩
    · have hq24 : q3 = 2 ∨ q3 = 4 := hcnt.1 hac
      obtain rfl : q3 = 4 := by omega
      clear hq24
      obtain ⟨z, hz⟩ : ∃ z, z = numAt b 5 := ⟨_, rfl⟩
      have HN5 := Lib.hid ((by have := HNUM.out wc KA.out 5 (by omega); rw [← hz] at this; exact this) : Calls Try.prog 35 #[.slice (some ⟨g, o, none⟩) b.length c0, .int .i64 5] wc fun e w'' => e = .returned (.int .i64 z) ∧ ∃ n, w'' = wc.drewN n)
      have hzb := numAt_bd HR.out 5
      rw [← hz] at hzb
      have HZ := Lib.hid hz
      have HZM := Lib.hid (fun (m : Ms) (h : GoodM b m) => (show z = m.bl.length ∧ m.bl.length ≤ c from by
        have hk := HGK.out m h
        obtain ⟨e1, e2, e3, e4, e6⟩ := good_bl h (show ldOf m.k = .bl a c by rw [hk.1, ← HLD.out])
        exact ⟨by rw [HZ.out]; exact e4 hac, e2⟩))
      clear hz
      go_wp2_with fail
      refine HN5.out.mono ?_
      rintro e wd ⟨rfl, n5, hwd⟩
      have kd : Kp (fun _ => False) wc wd := by rw [hwd]; exact kp_drewN _ _
      replace MA := Lib.hid (MA.out.old kd)
      replace A1 := Lib.hid (A1.out.old kd)
      replace KA := Lib.hid (KA.out.trans kd (fun _ _ f => f))
      have KW1 := Lib.hid (K1.out.trans KA.out (fun _ _ f => f))
      clear hwd kd
      by_cases hz0 : z < 0
      · have HP := Lib.hid (prs_no HR.out (fun m h => by have := HZM.out m h; omega))
        go_wp2_with ((with_reducible refine at_store 2 52 ?_); refine wpList_store_row rfl 25 _ _ rfl w.heap.size #[.int .i64 0, .int .i64 0, .slice none 0 0, .slice none 0 0] rfl rfl 25 _ A1.out (infoMs _ _ _ _) rfl (msOne _ _ _ _ _ _ _ _) ?_)
        refine bodyPost_ret (v := .tuple #[msV 0 0 (.slice none 0 0) (.slice none 0 0), .int .i64 40]) (results_cell_tmp' Try.results17 _ _ w.heap.size 25 _ (0, 0) _ _ rfl rfl (setRow_blk A1.out) Try.underlying25 rfl (infoMs _ _ _ _)) rfl ⟨.slice none 0 0, .slice none 0 0, by rw [HP.out] <;> rfl, by rw [HP.out]; exact sees0 _ _, KW1.out.setRow (fun hlt => by omega) _⟩
      by_cases hz1 : (c : Int) < z
      · have HP := Lib.hid (prs_no HR.out (fun m h => by have := HZM.out m h; omega))
        go_wp2_with ((with_reducible refine at_store 2 52 ?_); refine wpList_store_row rfl 25 _ _ rfl w.heap.size #[.int .i64 0, .int .i64 0, .slice none 0 0, .slice none 0 0] rfl rfl 25 _ A1.out (infoMs _ _ _ _) rfl (msOne _ _ _ _ _ _ _ _) ?_)
        refine bodyPost_ret (v := .tuple #[msV 0 0 (.slice none 0 0) (.slice none 0 0), .int .i64 40]) (results_cell_tmp' Try.results17 _ _ w.heap.size 25 _ (0, 0) _ _ rfl rfl (setRow_blk A1.out) Try.underlying25 rfl (infoMs _ _ _ _)) rfl ⟨.slice none 0 0, .slice none 0 0, by rw [HP.out] <;> rfl, by rw [HP.out]; exact sees0 _ _, KW1.out.setRow (fun hlt => by omega) _⟩
      obtain ⟨N, hN⟩ : ∃ N : Nat, (N : Int) = z := ⟨z.toNat, by omega⟩
      have HNZ := Lib.hid hN
      have HNN : Hid ((N : Int) = numAt b 5) := Lib.hid (hN.trans HZ.out)
      have hN32 : N ≤ 32 := by omega
      clear hN
      have HB9 : Hid (9 ≤ b.length) := Lib.hid (by
        rcases Nat.lt_or_ge b.length 9 with h9 | h9
        · have h1 : numAt b 5 = -1 := by unfold numAt; rw [if_neg (by omega)]
          have := HZ.out
          omega
        · exact h9)
      have hhd : hdOf a c = 9 := by unfold hdOf; rw [if_neg hac]
      have HHD := Lib.hid hhd
      have HRW := Lib.hid (rdR_ok HR.out 9)
      have HNG := Lib.hid (fun (m : Ms) (h : GoodM b m) => (show m = ⟨x0, r, [], (rdR b 9 N).2⟩ from by
        have hk := HGK.out m h
        have hl : ldOf m.k = .bl a c := by rw [hk.1, ← HLD.out]
        obtain ⟨e1, e2, e3, e4, e6⟩ := good_bl h hl
        have hN : N = m.bl.length := by have := e4 hac; rw [← HNN.out] at this; omega
        have e7 := (e6 N (by omega)).1
        rw [HHD.out] at e7
        cases m
        simp only [] at hk hN e3 e7
        rw [e7, hN, List.take_length, hk.1, hk.2, e3]))
      have HEX := Lib.hid (fun (j : Nat) (hj : j < N) (m : Ms) (h : GoodM b m) => (show 0 ≤ numAt b (rdR b 9 j).1 ∧ ((rdR b 9 j).1 : Int) + 4 + numAt b (rdR b 9 j).1 ≤ b.length from by
        have hk := HGK.out m h
        have hl : ldOf m.k = .bl a c := by rw [hk.1, ← HLD.out]
        obtain ⟨e1, e2, e3, e4, e6⟩ := good_bl h hl
        have hN : N = m.bl.length := by have := e4 hac; rw [← HNN.out] at this; omega
        have e7 := (e6 j (by omega)).2.2.2 (by omega)
        rw [HHD.out] at e7
        omega))
      have hNI0 : RB wd (w.heap.size + 1) (w.heap.size + 1) x0 r (.slice none 0 0) (.slice none 0 0) [] 0 (rdR b 9 0).2 := ⟨MA.out, ⟨[], OwnG.nil _ _ _ _, (fun j x hx => by cases hx)⟩, (fun e => by cases e), .inl ⟨rfl, rfl⟩, rfl, (fun x hx => by cases hx), Nat.le_refl _⟩
      have HNI0 := Lib.hid hNI0
      have HKA2 := Lib.hid (show Kp (fun g => w.heap.size + 1 ≤ g) (w.alloc (.cells #[.int .i64 0, .int .i64 0, .slice none 0 0, .slice none 0 0] 25)) wd from KA.out.mono (fun _ _ f => f.elim))
      have h9 : 9 ≤ b.length := HB9.out
      clear hNI0 hhd
      go_wp2_with fail
      go_loopw [10, 8] (fun i y wr => ∃ (j A : Nat) (vb : Value), j ≤ N ∧ i = .int .i64 j ∧ Hid (A = (rdR b 9 j).1) ∧ A ≤ b.length ∧ y = .int .i64 (A : Int) ∧ RB wr (w.heap.size + 1) (w.heap.size + 1) x0 r (.slice none 0 0) vb [] j (rdR b 9 j).2 ∧ Kp (fun g => w.heap.size + 1 ≤ g) (w.alloc (.cells #[.int .i64 0, .int .i64 0, .slice none 0 0, .slice none 0 0] 25)) wr) (fun i _ _ => N - (intOf i).toNat)
      case atStart => exact ⟨0, 9, _, by omega, rfl, Lib.hid rfl, h9, rfl, HNI0.out, HKA2.out⟩
      case round =>
        obtain ⟨j, A, vb, hj, rfl, hA, hAl, rfl, hni, hkp⟩ := hrel
        obtain ⟨t0, t1, t2, t3, tf⟩ := hni.ms.cells
        obtain ⟨us, hown, _⟩ := hni.own
        obtain ⟨a9, c9, hvi⟩ := hown.form
        have HNI := Lib.hid hni
        have HKP := Lib.hid hkp
        have HAR := Lib.hid (HA0.out.kept hkp (fun e => by omega))
        have HKW := Lib.hid (show Kp (fun _ => False) w wr from K1.out.trans hkp (fun x hx e => by omega))
        by_cases hlt : j < N
        · have hjN : (j : Int) < (z) := by have := HNZ.out; omega
          obtain ⟨y, hy⟩ : ∃ y, y = numAt b A := ⟨_, rfl⟩
          have hyb := numAt_bd HR.out A
          have HNA := Lib.hid ((by have := HNUM.out wr (hkp0 hkp) A (by omega); rw [← hy] at this; exact this) : Calls Try.prog 35 #[.slice (some ⟨g, o, none⟩) b.length c0, .int .i64 (A : Int)] wr fun e w'' => e = .returned (.int .i64 y) ∧ ∃ n, w'' = wr.drewN n)
          rw [← hy] at hyb
          have HY := Lib.hid hy
          have HEY := Lib.hid (fun (m : Ms) (h : GoodM b m) => (by have := HEX.out j hlt m h; rw [← hA.out, ← HY.out] at this; exact this : 0 ≤ y ∧ (A : Int) + 4 + y ≤ b.length))
          clear hy hni hkp tf hown
          go_wp2_with fail
          refine HNA.out.mono ?_
          rintro e w5 ⟨rfl, n5, hw5⟩
          have kd : Kp (fun _ => False) wr w5 := by rw [hw5]; exact kp_drewN _ _
          have HA5 := Lib.hid (HAR.out.old kd)
          have HK5 := Lib.hid (HKW.out.trans kd (fun _ _ f => f))
          have HN5 := Lib.hid (HNI.out.old kd)
          have HP5 := Lib.hid (HKP.out.trans kd (fun _ _ f => f.elim))
          clear hw5 kd t0 t1 t2 t3
          by_cases hy0 : y < 0
          · have HP := Lib.hid (prs_no HR.out (fun m h => by have := HEY.out m h; omega))
            go_wp2_with ((with_reducible refine at_store 2 105 ?_); refine wpList_store_row rfl 25 _ _ rfl w.heap.size #[.int .i64 0, .int .i64 0, .slice none 0 0, .slice none 0 0] rfl rfl 25 _ HA5.out (infoMs _ _ _ _) rfl (msOne _ _ _ _ _ _ _ _) ?_)
            refine bodyPost_ret (v := .tuple #[msV 0 0 (.slice none 0 0) (.slice none 0 0), .int .i64 40]) (results_cell_tmp' Try.results17 _ _ w.heap.size 25 _ (0, 0) _ _ rfl rfl (setRow_blk HA5.out) Try.underlying25 rfl (infoMs _ _ _ _)) rfl ⟨.slice none 0 0, .slice none 0 0, by rw [HP.out] <;> rfl, by rw [HP.out]; exact sees0 _ _, HK5.out.setRow (fun hlt => by omega) _⟩
          by_cases hy1 : (b.length : Int) - (A : Int) - 4 < y
          · have HP := Lib.hid (prs_no HR.out (fun m h => by have := HEY.out m h; omega))
            go_wp2_with ((with_reducible refine at_store 2 105 ?_); refine wpList_store_row rfl 25 _ _ rfl w.heap.size #[.int .i64 0, .int .i64 0, .slice none 0 0, .slice none 0 0] rfl rfl 25 _ HA5.out (infoMs _ _ _ _) rfl (msOne _ _ _ _ _ _ _ _) ?_)
            refine bodyPost_ret (v := .tuple #[msV 0 0 (.slice none 0 0) (.slice none 0 0), .int .i64 40]) (results_cell_tmp' Try.results17 _ _ w.heap.size 25 _ (0, 0) _ _ rfl rfl (setRow_blk HA5.out) Try.underlying25 rfl (infoMs _ _ _ _)) rfl ⟨.slice none 0 0, .slice none 0 0, by rw [HP.out] <;> rfl, by rw [HP.out]; exact sees0 _ _, HK5.out.setRow (fun hlt => by omega) _⟩
          obtain ⟨Y, hY⟩ : ∃ Y : Nat, (Y : Int) = y := ⟨y.toNat, by omega⟩
          have HYY := Lib.hid hY
          have hYl : A + 4 + Y ≤ b.length := by omega
          have hsl := (HS.out.kept (hkp0 HP5.out) (fun _ _ _ f => f)).kept ((Kp.refl (fun _ => False) w5).drew) (fun _ _ _ f => f)
          obtain ⟨x, hxe⟩ : ∃ x, x = (b.drop (A + 4)).take Y := ⟨_, rfl⟩
          obtain ⟨o2, hs2, hif⟩ : ∃ o2, Sees w5.drew (.slice (some ⟨g, o2, none⟩) Y (c0 - (A + 4))) x ∧ (if c0 = ((A : Int) + 4).toNat then some (⟨g, o, none⟩ : Addr) else some ⟨g, o + ((A : Int) + 4).toNat, none⟩) = some ⟨g, o2, none⟩ := by
            have eA : ((A : Int) + 4).toNat = A + 4 := by omega
            rw [eA]
            by_cases hc : c0 = A + 4
            · refine ⟨o, ?_, by rw [if_pos hc]⟩
              obtain rfl : Y = 0 := by omega
              rw [hxe, List.take_zero]
              exact sees_empty _ _ (by omega)
            · refine ⟨o + (A + 4), ?_, by rw [if_neg hc]⟩
              have hs1 := sees_drop hsl (A + 4) (by omega)
              rw [← List.length_drop] at hs1
              rw [hxe]
              exact sees_take hs1 Y (by rw [List.length_drop]; omega)
          have u1 : (0 : Int) ≤ (A : Int) + 4 + Y := by omega
          have u2 : (A : Int) + 4 + Y ≤ c0 := by omega
          have u3' : (0 : Int) ≤ (A : Int) + 4 := by omega
          have u4 : (A : Int) + 4 ≤ max ((A : Int) + 4 + Y) 0 := by omega
          have u5 : ((A : Int) + 4 + Y).toNat - ((A : Int) + 4).toNat = Y := by omega
          have u6 : c0 - ((A : Int) + 4).toNat = c0 - (A + 4) := by omega
          have hxl : x.length = Y := by rw [hxe, List.length_take, List.length_drop]; omega
          have hB5 : w.heap.size + 1 ≤ w5.heap.size := by have := HP5.out.size; rw [World.size_alloc] at this; exact this
          obtain ⟨a1, c1, w6, b3, d3, w7, hap1, hap2, hm6, hm7, hk7, k6, hn7⟩ := (HN5.out.old ((Kp.refl (fun _ => False) w5).drew)).step hB5 hs2 (by omega) (by omega)
          have HNX := Lib.hid (show (rdR b 9 (j + 1)).2 = (rdR b 9 j).2 ++ [x] ∧ (rdR b 9 (j + 1)).1 = A + 4 + Y from by
            have e0 : (numAt b (rdR b 9 j).1).toNat = Y := by rw [← hA.out, ← HY.out]; omega
            exact ⟨by show _ ++ [(b.drop ((rdR b 9 j).1 + 4)).take (numAt b (rdR b 9 j).1).toNat] = _; rw [e0, ← hA.out, ← hxe], by show (rdR b 9 j).1 + 4 + (numAt b (rdR b 9 j).1).toNat = _; rw [e0, ← hA.out]⟩)
          rw [← HNX.out.1] at hn7
          rw [hxl] at hap1 hap2
          obtain ⟨z0, z1, z2, z3, _⟩ := HN5.out.ms.cells
          obtain ⟨s0, s1, s2, s3, _⟩ := hm6.cells
          obtain ⟨p0, p1, p2, p3, pf⟩ := hm7.cells
          have pf3 := pf 3
          have s3a : (w6.alloc (.cells #[.slice a1 Y c1] 29)).cell? ⟨w.heap.size + 1, 3, none⟩ = some vb := by rw [((Kp.refl (fun _ => False) w6).alloc _).cell (lt_of_cell s3) (fun f => f)]; exact s3
          have e1 : IntKind.i64.wrap ((A : Int) + 4) = A + 4 := IntWalk.i64_in _ (by omega)
          have e2 : IntKind.i64.wrap ((A : Int) + 4 + Y) = A + 4 + Y := IntWalk.i64_in _ (by omega)
          have HAP1 := Lib.hid hap1
          have HAP2 := Lib.hid hap2
          have HN7 := Lib.hid hn7
          have HK7 := Lib.hid ((HP5.out.drew).trans hk7 (fun _ _ f => f))
          subst hvi
          subst hY
          clear hsl hs2 hxe hap1 hap2 hm6 hm7 hk7 k6 hn7 pf hxl
          go_upto_region 28 with fail
          refine wp_region_any (by kernel_rfl) ?_
          try (change wpAny _ _ _ _ _ _ _ (World.drew _))
          refine wpAny_take (i := 0) (v := ?_) rfl (by kernel_rfl) (by kernel_rfl) (by kernel_rfl) (fun _ _ _ h => h) (Or.inl ⟨by rfl, ?_⟩) ?_
          rotate_left
          · intro w; go_simp; try with_reducible rfl
          try simp only [Act.put, List.getElem_toArray, List.getElem_cons_zero, List.setIfInBounds_toArray, List.set_cons_zero, List.set_cons_succ]
          refine wpAny_take (i := 2) (v := ?_) rfl (by kernel_rfl) (by kernel_rfl) (by kernel_rfl) (fun _ _ _ h => h) (Or.inl ⟨by rfl, ?_⟩) ?_
          rotate_left
          · intro w; go_simp; try with_reducible rfl
          try simp only [Act.put, List.getElem_toArray, List.getElem_cons_succ, List.getElem_cons_zero, List.setIfInBounds_toArray, List.set_cons_zero, List.set_cons_succ]
          refine wpAny_take (i := 3) (v := ?_) rfl (by kernel_rfl) (by kernel_rfl) (by kernel_rfl) (fun _ _ _ h => h) (Or.inl ⟨by rfl, ?_⟩) ?_
          rotate_left
          · intro w; go_simp; try with_reducible rfl
          try simp only [Act.put, List.getElem_toArray, List.getElem_cons_succ, List.getElem_cons_zero, List.setIfInBounds_toArray, List.set_cons_zero, List.set_cons_succ]
          refine wpAny_take (i := 4) (v := ?_) rfl (by kernel_rfl) (by kernel_rfl) (by kernel_rfl) (fun _ _ _ h => h) (Or.inl ⟨by rfl, ?_⟩) ?_
          rotate_left
          · intro w; go_simp; try with_reducible rfl
          try simp only [Act.put, List.getElem_toArray, List.getElem_cons_succ, List.getElem_cons_zero, List.setIfInBounds_toArray, List.set_cons_zero, List.set_cons_succ]
          refine wpAny_take (i := 5) (v := ?_) rfl (by kernel_rfl) (by kernel_rfl) (by kernel_rfl) (fun _ _ _ h => h) (Or.inl ⟨by rfl, ?_⟩) ?_
          rotate_left
          · intro w; go_simp; try with_reducible rfl
          try simp only [Act.put, List.getElem_toArray, List.getElem_cons_succ, List.getElem_cons_zero, List.setIfInBounds_toArray, List.set_cons_zero, List.set_cons_succ]
          refine wpAny_take (i := 6) (v := ?_) rfl (by kernel_rfl) (by kernel_rfl) (by kernel_rfl) (fun _ _ _ h => h) (Or.inl ⟨by rfl, ?_⟩) ?_
          rotate_left
          · intro w; go_simp; try with_reducible rfl
          try simp only [Act.put, List.getElem_toArray, List.getElem_cons_succ, List.getElem_cons_zero, List.setIfInBounds_toArray, List.set_cons_zero, List.set_cons_succ]
          refine wpAny_take (i := 7) (v := ?_) rfl (by kernel_rfl) (by kernel_rfl) (by kernel_rfl) (fun _ _ _ h => h) (Or.inl ⟨by rfl, ?_⟩) ?_
          rotate_left
          · intro w; go_simp; try with_reducible rfl
          try simp only [Act.put, List.getElem_toArray, List.getElem_cons_succ, List.getElem_cons_zero, List.setIfInBounds_toArray, List.set_cons_zero, List.set_cons_succ]
          refine wpAny_take (i := 8) (v := ?_) rfl (by kernel_rfl) (by kernel_rfl) (by kernel_rfl) (fun _ _ _ h => h) (Or.inl ⟨by rfl, ?_⟩) ?_
          rotate_left
          · intro w; go_simp; try with_reducible rfl
          try simp only [Act.put, List.getElem_toArray, List.getElem_cons_succ, List.getElem_cons_zero, List.setIfInBounds_toArray, List.set_cons_zero, List.set_cons_succ]
          refine wpAny_ready (rs := [1, 9]) (by kernel_rfl) (by simp) ?_
          refine AllReady.cons rfl (fun K hK => ?_) (AllReady.cons rfl (fun K hK => ?_) AllReady.nil)
          · skip
            go_simp
            (try (refine hK _ _ ?_; clear hK K))
            try simp only [Act.put, List.getElem_toArray, List.getElem_cons_succ, List.getElem_cons_zero, List.setIfInBounds_toArray, List.set_cons_zero, List.set_cons_succ]
            refine wpAny_ready (rs := [9]) (by kernel_rfl) (by simp) ?_
            refine AllReady.cons rfl (fun K hK => ?_) AllReady.nil
            go_simp
            (try (refine hK _ _ ?_; clear hK K))
            try simp only [Act.put, List.getElem_toArray, List.getElem_cons_succ, List.getElem_cons_zero, List.setIfInBounds_toArray, List.set_cons_zero, List.set_cons_succ]
            refine wpAny_ready (rs := [10]) (by kernel_rfl) (by simp) ?_
            refine AllReady.cons rfl (fun K hK => ?_) AllReady.nil
            refine step_append_run rfl _ _ _ _ rfl _ _ rfl rfl _ _ (HAP1.out _) ?_
            (try (refine hK _ _ ?_; clear hK K))
            try simp only [Act.put, List.getElem_toArray, List.getElem_cons_succ, List.getElem_cons_zero, List.setIfInBounds_toArray, List.set_cons_zero, List.set_cons_succ]
            refine wpAny_ready (rs := [11]) (by kernel_rfl) (by simp) ?_
            refine AllReady.cons rfl (fun K hK => ?_) AllReady.nil
            go_simp
            (try (refine hK _ _ ?_; clear hK K))
            try simp only [Act.put, List.getElem_toArray, List.getElem_cons_succ, List.getElem_cons_zero, List.setIfInBounds_toArray, List.set_cons_zero, List.set_cons_succ]
            refine wpAny_ready (rs := [12]) (by kernel_rfl) (by simp) ?_
            refine AllReady.cons rfl (fun K hK => ?_) AllReady.nil
            refine step_append_run rfl _ _ _ _ rfl _ _ rfl rfl _ _ (HAP2.out _) ?_
            (try (refine hK _ _ ?_; clear hK K))
            try simp only [Act.put, List.getElem_toArray, List.getElem_cons_succ, List.getElem_cons_zero, List.setIfInBounds_toArray, List.set_cons_zero, List.set_cons_succ]
            refine wpAny_take (i := 13) (v := ?_) rfl (by kernel_rfl) (by kernel_rfl) (by kernel_rfl) (fun _ _ _ h => h) (Or.inl ⟨by rfl, ?_⟩) ?_
            rotate_left
            · intro w; go_simp; try with_reducible rfl
            try simp only [Act.put, List.getElem_toArray, List.getElem_cons_succ, List.getElem_cons_zero, List.setIfInBounds_toArray, List.set_cons_zero, List.set_cons_succ]
            refine wpAny_ready (rs := [14]) (by kernel_rfl) (by simp) ?_
            refine AllReady.cons rfl (fun K hK => ?_) AllReady.nil
            go_simp
            (try (refine hK _ _ ?_; clear hK K))
            try simp only [Act.put, List.getElem_toArray, List.getElem_cons_succ, List.getElem_cons_zero, List.setIfInBounds_toArray, List.set_cons_zero, List.set_cons_succ]
            refine wpAny_done (by kernel_rfl) ?_ _
            go_wp2_with fail
            go_roundw
            case rel => exact ⟨j + 1, A + 4 + Y, _, by omega, by go_num, Lib.hid HNX.out.2.symm, hYl, by go_num, HN7.out, HK7.out⟩
            case measure => simp [intOf]; omega
          · skip
            go_simp
            (try (refine hK _ _ ?_; clear hK K))
            try simp only [Act.put, List.getElem_toArray, List.getElem_cons_succ, List.getElem_cons_zero, List.setIfInBounds_toArray, List.set_cons_zero, List.set_cons_succ]
            refine wpAny_ready (rs := [1, 10]) (by kernel_rfl) (by simp) ?_
            refine AllReady.cons rfl (fun K hK => ?_) (AllReady.cons rfl (fun K hK => ?_) AllReady.nil)
            · skip
              go_simp
              (try (refine hK _ _ ?_; clear hK K))
              try simp only [Act.put, List.getElem_toArray, List.getElem_cons_succ, List.getElem_cons_zero, List.setIfInBounds_toArray, List.set_cons_zero, List.set_cons_succ]
              refine wpAny_ready (rs := [10]) (by kernel_rfl) (by simp) ?_
              refine AllReady.cons rfl (fun K hK => ?_) AllReady.nil
              refine step_append_run rfl _ _ _ _ rfl _ _ rfl rfl _ _ (HAP1.out _) ?_
              (try (refine hK _ _ ?_; clear hK K))
              try simp only [Act.put, List.getElem_toArray, List.getElem_cons_succ, List.getElem_cons_zero, List.setIfInBounds_toArray, List.set_cons_zero, List.set_cons_succ]
              refine wpAny_ready (rs := [11]) (by kernel_rfl) (by simp) ?_
              refine AllReady.cons rfl (fun K hK => ?_) AllReady.nil
              go_simp
              (try (refine hK _ _ ?_; clear hK K))
              try simp only [Act.put, List.getElem_toArray, List.getElem_cons_succ, List.getElem_cons_zero, List.setIfInBounds_toArray, List.set_cons_zero, List.set_cons_succ]
              refine wpAny_ready (rs := [12]) (by kernel_rfl) (by simp) ?_
              refine AllReady.cons rfl (fun K hK => ?_) AllReady.nil
              refine step_append_run rfl _ _ _ _ rfl _ _ rfl rfl _ _ (HAP2.out _) ?_
              (try (refine hK _ _ ?_; clear hK K))
              try simp only [Act.put, List.getElem_toArray, List.getElem_cons_succ, List.getElem_cons_zero, List.setIfInBounds_toArray, List.set_cons_zero, List.set_cons_succ]
              refine wpAny_take (i := 13) (v := ?_) rfl (by kernel_rfl) (by kernel_rfl) (by kernel_rfl) (fun _ _ _ h => h) (Or.inl ⟨by rfl, ?_⟩) ?_
              rotate_left
              · intro w; go_simp; try with_reducible rfl
              try simp only [Act.put, List.getElem_toArray, List.getElem_cons_succ, List.getElem_cons_zero, List.setIfInBounds_toArray, List.set_cons_zero, List.set_cons_succ]
              refine wpAny_ready (rs := [14]) (by kernel_rfl) (by simp) ?_
              refine AllReady.cons rfl (fun K hK => ?_) AllReady.nil
              go_simp
              (try (refine hK _ _ ?_; clear hK K))
              try simp only [Act.put, List.getElem_toArray, List.getElem_cons_succ, List.getElem_cons_zero, List.setIfInBounds_toArray, List.set_cons_zero, List.set_cons_succ]
              refine wpAny_done (by kernel_rfl) ?_ _
              go_wp2_with fail
              go_roundw
              case rel => exact ⟨j + 1, A + 4 + Y, _, by omega, by go_num, Lib.hid HNX.out.2.symm, hYl, by go_num, HN7.out, HK7.out⟩
              case measure => simp [intOf]; omega
            · skip
              refine step_append_run rfl _ _ _ _ rfl _ _ rfl rfl _ _ (HAP1.out _) ?_
              (try (refine hK _ _ ?_; clear hK K))
              try simp only [Act.put, List.getElem_toArray, List.getElem_cons_succ, List.getElem_cons_zero, List.setIfInBounds_toArray, List.set_cons_zero, List.set_cons_succ]
              refine wpAny_ready (rs := [1, 11]) (by kernel_rfl) (by simp) ?_
              refine AllReady.cons rfl (fun K hK => ?_) (AllReady.cons rfl (fun K hK => ?_) AllReady.nil)
              · skip
                go_simp
                (try (refine hK _ _ ?_; clear hK K))
                try simp only [Act.put, List.getElem_toArray, List.getElem_cons_succ, List.getElem_cons_zero, List.setIfInBounds_toArray, List.set_cons_zero, List.set_cons_succ]
                refine wpAny_ready (rs := [11]) (by kernel_rfl) (by simp) ?_
                refine AllReady.cons rfl (fun K hK => ?_) AllReady.nil
                go_simp
                (try (refine hK _ _ ?_; clear hK K))
                try simp only [Act.put, List.getElem_toArray, List.getElem_cons_succ, List.getElem_cons_zero, List.setIfInBounds_toArray, List.set_cons_zero, List.set_cons_succ]
                refine wpAny_ready (rs := [12]) (by kernel_rfl) (by simp) ?_
                refine AllReady.cons rfl (fun K hK => ?_) AllReady.nil
                refine step_append_run rfl _ _ _ _ rfl _ _ rfl rfl _ _ (HAP2.out _) ?_
                (try (refine hK _ _ ?_; clear hK K))
                try simp only [Act.put, List.getElem_toArray, List.getElem_cons_succ, List.getElem_cons_zero, List.setIfInBounds_toArray, List.set_cons_zero, List.set_cons_succ]
                refine wpAny_take (i := 13) (v := ?_) rfl (by kernel_rfl) (by kernel_rfl) (by kernel_rfl) (fun _ _ _ h => h) (Or.inl ⟨by rfl, ?_⟩) ?_
                rotate_left
                · intro w; go_simp; try with_reducible rfl
                try simp only [Act.put, List.getElem_toArray, List.getElem_cons_succ, List.getElem_cons_zero, List.setIfInBounds_toArray, List.set_cons_zero, List.set_cons_succ]
                refine wpAny_ready (rs := [14]) (by kernel_rfl) (by simp) ?_
                refine AllReady.cons rfl (fun K hK => ?_) AllReady.nil
                go_simp
                (try (refine hK _ _ ?_; clear hK K))
                try simp only [Act.put, List.getElem_toArray, List.getElem_cons_succ, List.getElem_cons_zero, List.setIfInBounds_toArray, List.set_cons_zero, List.set_cons_succ]
                refine wpAny_done (by kernel_rfl) ?_ _
                go_wp2_with fail
                go_roundw
                case rel => exact ⟨j + 1, A + 4 + Y, _, by omega, by go_num, Lib.hid HNX.out.2.symm, hYl, by go_num, HN7.out, HK7.out⟩
                case measure => simp [intOf]; omega
              · skip
                go_simp
                (try (refine hK _ _ ?_; clear hK K))
                try simp only [Act.put, List.getElem_toArray, List.getElem_cons_succ, List.getElem_cons_zero, List.setIfInBounds_toArray, List.set_cons_zero, List.set_cons_succ]
                refine wpAny_ready (rs := [1]) (by kernel_rfl) (by simp) ?_
                refine AllReady.cons rfl (fun K hK => ?_) AllReady.nil
                go_simp
                (try (refine hK _ _ ?_; clear hK K))
                try simp only [Act.put, List.getElem_toArray, List.getElem_cons_succ, List.getElem_cons_zero, List.setIfInBounds_toArray, List.set_cons_zero, List.set_cons_succ]
                refine wpAny_ready (rs := [12]) (by kernel_rfl) (by simp) ?_
                refine AllReady.cons rfl (fun K hK => ?_) AllReady.nil
                refine step_append_run rfl _ _ _ _ rfl _ _ rfl rfl _ _ (HAP2.out _) ?_
                (try (refine hK _ _ ?_; clear hK K))
                try simp only [Act.put, List.getElem_toArray, List.getElem_cons_succ, List.getElem_cons_zero, List.setIfInBounds_toArray, List.set_cons_zero, List.set_cons_succ]
                refine wpAny_take (i := 13) (v := ?_) rfl (by kernel_rfl) (by kernel_rfl) (by kernel_rfl) (fun _ _ _ h => h) (Or.inl ⟨by rfl, ?_⟩) ?_
                rotate_left
                · intro w; go_simp; try with_reducible rfl
                try simp only [Act.put, List.getElem_toArray, List.getElem_cons_succ, List.getElem_cons_zero, List.setIfInBounds_toArray, List.set_cons_zero, List.set_cons_succ]
                refine wpAny_ready (rs := [14]) (by kernel_rfl) (by simp) ?_
                refine AllReady.cons rfl (fun K hK => ?_) AllReady.nil
                go_simp
                (try (refine hK _ _ ?_; clear hK K))
                try simp only [Act.put, List.getElem_toArray, List.getElem_cons_succ, List.getElem_cons_zero, List.setIfInBounds_toArray, List.set_cons_zero, List.set_cons_succ]
                refine wpAny_done (by kernel_rfl) ?_ _
                go_wp2_with fail
                go_roundw
                case rel => exact ⟨j + 1, A + 4 + Y, _, by omega, by go_num, Lib.hid HNX.out.2.symm, hYl, by go_num, HN7.out, HK7.out⟩
                case measure => simp [intOf]; omega
        · obtain rfl : j = N := by omega
          have hjN : ¬ (j : Int) < (z) := by have := HNZ.out; omega
          have HSM := Lib.hid hni.sees
          have HWF := Lib.hid (show (⟨x0, r, [], (rdR b 9 j).2⟩ : Ms).wf from ⟨by show _ ≤ x0; omega, by show x0 ≤ _; omega, hrb.1, hrb.2, (fun x hx => by cases hx), (fun x hx => HRW.out j x hx)⟩)
          have HMT := Lib.hid hni.ms
          have HRT := HAR
          have HKB : Hid (Kp (fun _ => False) (w.alloc (.cells #[.int .i64 0, .int .i64 0, .slice none 0 0, .slice none 0 0] 25)) wr) := Lib.hid (hkp0 hkp)
          have HKT := HKW
          clear hni hkp tf hown
          subst hvi
          obtain ⟨t0, t1, t2, t3, _⟩ := HMT.out.cells
          have hby := rmbytes_any HWF.out HSM.out
          unfold MsOut msV at hby
          have HBY := Lib.hid hby
          clear hby
          go_wp2_with fail
          refine HBY.out.mono ?_
          rintro e w8 ⟨v8, rfl, o8, k8⟩
          obtain ⟨a8, c8, rfl⟩ := sees_form o8.sees
          have S1 := run_string_of o8.sees
          have S2 := run_string_of (HS.out.kept ((show Kp (fun _ => False) (w.alloc (.cells #[.int .i64 0, .int .i64 0, .slice none 0 0, .slice none 0 0] 25)) w8 from HKB.out.trans k8 (fun _ _ f => f))) (fun _ _ _ f => f))
          have hq := strOf_inj (msBytes_rng HWF.out) HR.out
          have HR8 := Lib.hid (HRT.out.old k8)
          have HM8 := Lib.hid (HMT.out.old k8)
          have HS8 := Lib.hid (HSM.out.old k8)
          have HK8 := Lib.hid (HKT.out.trans k8 (fun _ _ f => f))
          clear k8 o8
          by_cases hok : okM (⟨x0, r, [], (rdR b 9 j).2⟩ : Ms) = true
          · have hbb : msBytes (⟨x0, r, [], (rdR b 9 j).2⟩ : Ms) = form (⟨x0, r, [], (rdR b 9 j).2⟩ : Ms) := by unfold msBytes; rw [if_pos hok]
            rw [show chk (⟨x0, r, [], (rdR b 9 j).2⟩ : Ms) = 0 by unfold chk; rw [if_pos hok]]
            rw [hbb] at S1 hq ⊢
            by_cases hfb : form (⟨x0, r, [], (rdR b 9 j).2⟩ : Ms) = b
            · have HP := Lib.hid (prs_of_good HWF.out hok hfb)
              rw [decide_eq_true hfb] at hq
              obtain ⟨s0, s1, s2, s3, _⟩ := HM8.out.cells
              clear hok hbb hfb
              go_wp2_with ((with_reducible refine at_store 2 139 ?_); refine wpList_store_row rfl 25 _ _ rfl w.heap.size #[.int .i64 x0, .int .i64 r, .slice none 0 0, .slice a9 j c9] rfl rfl 25 _ HR8.out (infoMs _ _ _ _) rfl (msOne _ _ _ _ _ _ _ _) ?_)
              refine bodyPost_ret (v := .tuple #[msV x0 r (.slice none 0 0) (.slice a9 j c9), .int .i64 0]) (results_cell_tmp' Try.results17 _ _ w.heap.size 25 _ (0, 0) _ _ rfl rfl (setRow_blk HR8.out) Try.underlying25 rfl (infoMs _ _ _ _)) rfl ⟨_, _, by rw [HP.out] <;> rfl, ?_, HK8.out.setRow (fun hlt => by omega) _⟩
              rw [HP.out]
              exact (HS8.out.kept ((Kp.refl (fun y => y = w.heap.size) _).setRow (fun _ => rfl) _) (fun g hg e => by have e' : g = w.heap.size := e; have h1 : w.heap.size + 1 ≤ g := hg.1; omega)).mono (fun g _ hg => by have h1 : w.heap.size + 1 ≤ g := hg.1; omega) HWF.out
            · have HP := Lib.hid (prs_no HR.out (fun m h => hfb (by rw [← HNG.out m h]; exact h.form)))
              rw [decide_eq_false hfb] at hq
              clear hok hbb hfb
              go_wp2_with ((with_reducible refine at_store 2 138 ?_); refine wpList_store_row rfl 25 _ _ rfl w.heap.size #[.int .i64 0, .int .i64 0, .slice none 0 0, .slice none 0 0] rfl rfl 25 _ HR8.out (infoMs _ _ _ _) rfl (msOne _ _ _ _ _ _ _ _) ?_)
              refine bodyPost_ret (v := .tuple #[msV 0 0 (.slice none 0 0) (.slice none 0 0), .int .i64 40]) (results_cell_tmp' Try.results17 _ _ w.heap.size 25 _ (0, 0) _ _ rfl rfl (setRow_blk HR8.out) Try.underlying25 rfl (infoMs _ _ _ _)) rfl ⟨.slice none 0 0, .slice none 0 0, by rw [HP.out] <;> rfl, by rw [HP.out]; exact sees0 _ _, HK8.out.setRow (fun hlt => by omega) _⟩
          · have HP := Lib.hid (prs_no HR.out (fun m h => hok (by rw [← HNG.out m h]; exact h.ok)))
            rw [show chk (⟨x0, r, [], (rdR b 9 j).2⟩ : Ms) = 40 by unfold chk; rw [if_neg hok]]
            clear hok hq
            go_wp2_with ((with_reducible refine at_store 2 138 ?_); refine wpList_store_row rfl 25 _ _ rfl w.heap.size #[.int .i64 0, .int .i64 0, .slice none 0 0, .slice none 0 0] rfl rfl 25 _ HR8.out (infoMs _ _ _ _) rfl (msOne _ _ _ _ _ _ _ _) ?_)
            refine bodyPost_ret (v := .tuple #[msV 0 0 (.slice none 0 0) (.slice none 0 0), .int .i64 40]) (results_cell_tmp' Try.results17 _ _ w.heap.size 25 _ (0, 0) _ _ rfl rfl (setRow_blk HR8.out) Try.underlying25 rfl (infoMs _ _ _ _)) rfl ⟨.slice none 0 0, .slice none 0 0, by rw [HP.out] <;> rfl, by rw [HP.out]; exact sees0 _ _, HK8.out.setRow (fun hlt => by omega) _⟩
end Go.Proofs.Ytleapcbkkggecaa
